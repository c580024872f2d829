/- Walks of the reference's table. -/
import Derived.Test.YtbobdbdknapdcaaD5
import Derived.Test.YtbobdbdknapdcaaG1
namespace Go.Proofs.Ytbobdbdknapdcaa
open Go.RowKit
set_option linter.unusedVariables false

set_option maxHeartbeats 2000000 in
set_option maxRecDepth 100000 in
theorem r_table (w : World) :
    Calls Try.prog 44 #[] w fun e w' => e = .returned (.agg (ints .u32 kTable).toArray) ∧ Below w.heap.size w w' := by
  go_enter Try.func44, Try.ntmps44
  go_wp2_with (first | (refine wpList_store_blk rfl 81 _ _ rfl w.heap.size (ints .u32 kTable) rfl rfl (Blk.new' w 81 (ints .u32 (zer 64)) rfl) (by rw [size_k64]; rfl) rfl (ints_one _ _) ?_))
  exact bodyPost_ret (v := .agg (ints .u32 kTable).toArray) (results_cell_blk rfl _ _ _ rfl ((Blk.new' w 81 (ints .u32 (zer 64)) rfl).row (ints .u32 kTable) rfl) Try.underlying81 rfl (by rw [size_k64]; rfl)) rfl ⟨rfl, below_setRow ((Below.refl _ _).alloc (Nat.le_refl _) _) (Nat.le_refl _) _⟩

end Go.Proofs.Ytbobdbdknapdcaa
namespace Go.Proofs.Ytbobdbdknapdcaa
open Go.RowKit
set_option linter.unusedVariables false

theorem or_addI (i : Nat) (a b : Int) (hi : 2 ^ i ≤ (4294967296 : Int)) (ha0 : 0 ≤ a) (ha : a < 4294967296) (hm : a % 2 ^ i = 0) (hb0 : 0 ≤ b) (hb : b < 2 ^ i) : bits .or .u32 a b = a + b :=
  bits_join .u32 32 (by decide) (fun n h0 h1 => by rw [IntKind.wrap_u32]; omega) i a b ha0 hm (by omega) hb0 hb (by omega)
def quad (a b c d : Int) : Int := a * 16777216 + b * 65536 + c * 256 + d
theorem or_quad (a b c d : Int) (ha : 0 ≤ a ∧ a < 256) (hb : 0 ≤ b ∧ b < 256) (hc : 0 ≤ c ∧ c < 256) (hd : 0 ≤ d ∧ d < 256) :
    bits .or .u32 (bits .or .u32 (bits .or .u32 (a * 16777216) (b * 65536)) (c * 256)) d = quad a b c d := by
  rw [or_addI 24 (a * 16777216) (b * 65536) (by decide) (by omega) (by omega) (by omega) (by omega) (by omega)]
  rw [or_addI 16 (a * 16777216 + b * 65536) (c * 256) (by decide) (by omega) (by omega) (by omega) (by omega) (by omega)]
  rw [or_addI 8 (a * 16777216 + b * 65536 + c * 256) d (by decide) (by omega) (by omega) (by omega) (by omega) (by omega)]
  rfl
theorem pre_quad (s : ByteArray) (i : Nat) : pre s i 4 = quad (byteN s (4 * i)) (byteN s (4 * i + 1)) (byteN s (4 * i + 2)) (byteN s (4 * i + 3)) := by
  have h0 := byteN_lt s (4 * i)
  have h1 := byteN_lt s (4 * i + 1)
  have h2 := byteN_lt s (4 * i + 2)
  have h3 := byteN_lt s (4 * i + 3)
  simp only [pre, Nat.add_zero]
  generalize byteN s (4 * i) = a at *
  generalize byteN s (4 * i + 1) = b at *
  generalize byteN s (4 * i + 2) = c at *
  generalize byteN s (4 * i + 3) = d at *
  rw [show (0 : Int) * 256 % 4294967296 = 0 by decide]
  rw [or_addI 8 0 a (by decide) (by omega) (by omega) (by omega) (by omega) (by omega), Int.zero_add]
  rw [show a * 256 % 4294967296 = a * 256 by omega]
  rw [or_addI 8 (a * 256) b (by decide) (by omega) (by omega) (by omega) (by omega) (by omega)]
  rw [show (a * 256 + b) * 256 % 4294967296 = (a * 256 + b) * 256 by omega]
  rw [or_addI 8 ((a * 256 + b) * 256) c (by decide) (by omega) (by omega) (by omega) (by omega) (by omega)]
  rw [show ((a * 256 + b) * 256 + c) * 256 % 4294967296 = ((a * 256 + b) * 256 + c) * 256 by omega]
  rw [or_addI 8 (((a * 256 + b) * 256 + c) * 256) d (by decide) (by omega) (by omega) (by omega) (by omega) (by omega)]
  unfold quad
  omega
theorem byteN_bs (l : List Int) (h : Octets l) (j : Nat) : byteN (bs l) j = l.getD j 0 := by
  have : is (bs l) = l := is_bs l h
  have h2 : (is (bs l)).getD j 0 = byteN (bs l) j := by
    unfold is byteN
    simp only [List.getD_eq_getElem?_getD, List.getElem?_map]
    cases (bs l).data.toList[j]? <;> simp
  rw [← h2, this]

theorem ref_row (a b c d e f g h kk ww : Int) : [(h + bits .xor .u32 (bits .xor .u32 (rotr e 6) (rotr e 11)) (rotr e 25) + bits .xor .u32 (bits .and .u32 e f) (bits .and .u32 (bits .xor .u32 IntKind.u32.max e) g) + kk + ww +
      (bits .xor .u32 (bits .xor .u32 (rotr a 2) (rotr a 13)) (rotr a 22) + bits .xor .u32 (bits .xor .u32 (bits .and .u32 a b) (bits .and .u32 a c)) (bits .and .u32 b c))) % 4294967296, a, b, c,
    (d + (h + bits .xor .u32 (bits .xor .u32 (rotr e 6) (rotr e 11)) (rotr e 25) + bits .xor .u32 (bits .and .u32 e f) (bits .and .u32 (bits .xor .u32 IntKind.u32.max e) g) + kk + ww)) % 4294967296, e, f, g] =
    shaStep [a, b, c, d, e, f, g, h] ((kk + ww) % 4294967296) := by
  simp only [shaStep, tt, uu]
  generalize bits .xor .u32 (bits .xor .u32 (rotr e 6) (rotr e 11)) (rotr e 25) = A
  generalize bits .xor .u32 (bits .and .u32 e f) (bits .and .u32 (bits .xor .u32 IntKind.u32.max e) g) = B
  generalize bits .xor .u32 (bits .xor .u32 (rotr a 2) (rotr a 13)) (rotr a 22) = C
  generalize bits .xor .u32 (bits .xor .u32 (bits .and .u32 a b) (bits .and .u32 a c)) (bits .and .u32 b c) = D
  simp only [List.cons.injEq, and_true, true_and]
  exact ⟨by omega, by omega⟩
theorem list8 (l : List Int) (h : l.length = 8) : ∃ a b c d e f g k, l = [a, b, c, d, e, f, g, k] := by
  match l, h with
  | [a, b, c, d, e, f, g, k], _ => exact ⟨a, b, c, d, e, f, g, k, rfl⟩
set_option maxHeartbeats 4000000 in
set_option maxRecDepth 100000 in
theorem r_step (v : List Int) (g off cap : Nat) (blk : List Int) (w : World) (hv : v.length = 8) (hb : blk.length = 64) (ho : Octets blk) (hr : w.rangeAt g off (ints .u8 blk)) (hg : g < w.heap.size) (hcap : 64 ≤ cap) :
    Calls Try.prog 25 #[.agg (ints .u32 v).toArray, .slice (some ⟨g, off, none⟩) 64 cap] w fun e w' => e = .returned (.agg (ints .u32 (shaBlock kTable v (bs blk))).toArray) ∧ Below w.heap.size w w' := by
  have ht := r_table
  have hK := kTable_len
  unfold shaBlock
  generalize kTable = K at *
  have HT := Lib.hid ht
  have HK := Lib.hid hK
  have HV := Lib.hid hv
  have HB := Lib.hid hb
  clear ht hK hv hb
  go_enter Try.func25, Try.ntmps25
  go_wp2_with fail
  have hA : Below w.heap.size w ((w.alloc (.cells (ints .u32 v).toArray 70)).alloc (.cells (ints .u32 (zer 8)).toArray 70)) := ((Below.refl _ _).alloc (Nat.le_refl _) _).alloc (by simp) _
  have hv0 : Blk ((w.alloc (.cells (ints .u32 v).toArray 70)).alloc (.cells (ints .u32 (zer 8)).toArray 70)) w.heap.size 70 (ints .u32 v) := (Blk.new w 70 (ints .u32 v)).alloc _
  have hr0 : Blk ((w.alloc (.cells (ints .u32 v).toArray 70)).alloc (.cells (ints .u32 (zer 8)).toArray 70)) (w.heap.size + 1) 70 (ints .u32 (zer 8)) := Blk.new2 _ _ _ _ rfl
  have hsA : ((w.alloc (.cells (ints .u32 v).toArray 70)).alloc (.cells (ints .u32 (zer 8)).toArray 70)).heap.size = w.heap.size + 2 := by simp
  change Calls Try.prog 44 #[] ((w.alloc (.cells (ints .u32 v).toArray 70)).alloc (.cells (ints .u32 (zer 8)).toArray 70)) _
  generalize World.alloc (World.alloc w _) _ = wA at *
  refine (HT.out _).mono ?_
  rintro e wT ⟨rfl, hbT⟩
  have hT : Below w.heap.size w wT := hA.trans (hbT.mono hA.size)
  have hvT := hv0.below hbT hv0.lt
  have hrT := hr0.below hbT hr0.lt
  have hsT : w.heap.size + 2 ≤ wT.heap.size := by rw [← hsA]; exact hbT.size
  clear hA hv0 hr0 hsA hbT
  have hZ1 : ∀ (x : Obj) (c : Array Value), Blk (((wT.alloc x).setRow wT.heap.size c).alloc (.cells #[.int .u32 0, .int .u32 0, .int .u32 0, .int .u32 0, .int .u32 0, .int .u32 0, .int .u32 0, .int .u32 0, .int .u32 0, .int .u32 0, .int .u32 0, .int .u32 0, .int .u32 0, .int .u32 0, .int .u32 0, .int .u32 0, .int .u32 0, .int .u32 0, .int .u32 0, .int .u32 0, .int .u32 0, .int .u32 0, .int .u32 0, .int .u32 0, .int .u32 0, .int .u32 0, .int .u32 0, .int .u32 0, .int .u32 0, .int .u32 0, .int .u32 0, .int .u32 0, .int .u32 0, .int .u32 0, .int .u32 0, .int .u32 0, .int .u32 0, .int .u32 0, .int .u32 0, .int .u32 0, .int .u32 0, .int .u32 0, .int .u32 0, .int .u32 0, .int .u32 0, .int .u32 0, .int .u32 0, .int .u32 0, .int .u32 0, .int .u32 0, .int .u32 0, .int .u32 0, .int .u32 0, .int .u32 0, .int .u32 0, .int .u32 0, .int .u32 0, .int .u32 0, .int .u32 0, .int .u32 0, .int .u32 0, .int .u32 0, .int .u32 0, .int .u32 0] 81)) (wT.heap.size + 1) 81 (ints .u32 (zer 64)) := fun x c => by
    have h := Blk.new' ((wT.alloc x).setRow wT.heap.size c) 81 (c := #[.int .u32 0, .int .u32 0, .int .u32 0, .int .u32 0, .int .u32 0, .int .u32 0, .int .u32 0, .int .u32 0, .int .u32 0, .int .u32 0, .int .u32 0, .int .u32 0, .int .u32 0, .int .u32 0, .int .u32 0, .int .u32 0, .int .u32 0, .int .u32 0, .int .u32 0, .int .u32 0, .int .u32 0, .int .u32 0, .int .u32 0, .int .u32 0, .int .u32 0, .int .u32 0, .int .u32 0, .int .u32 0, .int .u32 0, .int .u32 0, .int .u32 0, .int .u32 0, .int .u32 0, .int .u32 0, .int .u32 0, .int .u32 0, .int .u32 0, .int .u32 0, .int .u32 0, .int .u32 0, .int .u32 0, .int .u32 0, .int .u32 0, .int .u32 0, .int .u32 0, .int .u32 0, .int .u32 0, .int .u32 0, .int .u32 0, .int .u32 0, .int .u32 0, .int .u32 0, .int .u32 0, .int .u32 0, .int .u32 0, .int .u32 0, .int .u32 0, .int .u32 0, .int .u32 0, .int .u32 0, .int .u32 0, .int .u32 0, .int .u32 0, .int .u32 0]) (ints .u32 (zer 64)) rfl
    have e : ((wT.alloc x).setRow wT.heap.size c).heap.size = wT.heap.size + 1 := by simp
    rwa [e] at h
  go_wp2_with (first | (refine wpList_store_blk rfl 81 (.tmp 5) (.tmp 16) rfl wT.heap.size (ints .u32 K) rfl rfl (Blk.new' wT 81 (ints .u32 (zer 64)) rfl) (by rw [size_k64, ints_length, HK.out]) (by rw [ints_length, ints_length, HK.out]; rfl) (ints_one _ _) ?_) | (refine wpList_store_blk rfl 81 (.tmp 6) (.tmp 17) rfl (wT.heap.size + 1) (ints .u32 (zer 64)) rfl rfl (hZ1 _ _) (by rw [size_k64]; rfl) rfl (ints_one _ _) ?_))
  generalize (Value.agg #[.int .u32 0, .int .u32 0, .int .u32 0, .int .u32 0, .int .u32 0, .int .u32 0, .int .u32 0, .int .u32 0, .int .u32 0, .int .u32 0, .int .u32 0, .int .u32 0, .int .u32 0, .int .u32 0, .int .u32 0, .int .u32 0, .int .u32 0, .int .u32 0, .int .u32 0, .int .u32 0, .int .u32 0, .int .u32 0, .int .u32 0, .int .u32 0, .int .u32 0, .int .u32 0, .int .u32 0, .int .u32 0, .int .u32 0, .int .u32 0, .int .u32 0, .int .u32 0, .int .u32 0, .int .u32 0, .int .u32 0, .int .u32 0, .int .u32 0, .int .u32 0, .int .u32 0, .int .u32 0, .int .u32 0, .int .u32 0, .int .u32 0, .int .u32 0, .int .u32 0, .int .u32 0, .int .u32 0, .int .u32 0, .int .u32 0, .int .u32 0, .int .u32 0, .int .u32 0, .int .u32 0, .int .u32 0, .int .u32 0, .int .u32 0, .int .u32 0, .int .u32 0, .int .u32 0, .int .u32 0, .int .u32 0, .int .u32 0, .int .u32 0, .int .u32 0]) = z17
  have hK3 : Blk ((((wT.alloc (.cells #[.int .u32 0, .int .u32 0, .int .u32 0, .int .u32 0, .int .u32 0, .int .u32 0, .int .u32 0, .int .u32 0, .int .u32 0, .int .u32 0, .int .u32 0, .int .u32 0, .int .u32 0, .int .u32 0, .int .u32 0, .int .u32 0, .int .u32 0, .int .u32 0, .int .u32 0, .int .u32 0, .int .u32 0, .int .u32 0, .int .u32 0, .int .u32 0, .int .u32 0, .int .u32 0, .int .u32 0, .int .u32 0, .int .u32 0, .int .u32 0, .int .u32 0, .int .u32 0, .int .u32 0, .int .u32 0, .int .u32 0, .int .u32 0, .int .u32 0, .int .u32 0, .int .u32 0, .int .u32 0, .int .u32 0, .int .u32 0, .int .u32 0, .int .u32 0, .int .u32 0, .int .u32 0, .int .u32 0, .int .u32 0, .int .u32 0, .int .u32 0, .int .u32 0, .int .u32 0, .int .u32 0, .int .u32 0, .int .u32 0, .int .u32 0, .int .u32 0, .int .u32 0, .int .u32 0, .int .u32 0, .int .u32 0, .int .u32 0, .int .u32 0, .int .u32 0] 81)).setRow wT.heap.size (ints .u32 K).toArray).alloc (.cells #[.int .u32 0, .int .u32 0, .int .u32 0, .int .u32 0, .int .u32 0, .int .u32 0, .int .u32 0, .int .u32 0, .int .u32 0, .int .u32 0, .int .u32 0, .int .u32 0, .int .u32 0, .int .u32 0, .int .u32 0, .int .u32 0, .int .u32 0, .int .u32 0, .int .u32 0, .int .u32 0, .int .u32 0, .int .u32 0, .int .u32 0, .int .u32 0, .int .u32 0, .int .u32 0, .int .u32 0, .int .u32 0, .int .u32 0, .int .u32 0, .int .u32 0, .int .u32 0, .int .u32 0, .int .u32 0, .int .u32 0, .int .u32 0, .int .u32 0, .int .u32 0, .int .u32 0, .int .u32 0, .int .u32 0, .int .u32 0, .int .u32 0, .int .u32 0, .int .u32 0, .int .u32 0, .int .u32 0, .int .u32 0, .int .u32 0, .int .u32 0, .int .u32 0, .int .u32 0, .int .u32 0, .int .u32 0, .int .u32 0, .int .u32 0, .int .u32 0, .int .u32 0, .int .u32 0, .int .u32 0, .int .u32 0, .int .u32 0, .int .u32 0, .int .u32 0] 81)).setRow (wT.heap.size + 1) (ints .u32 (zer 64)).toArray) wT.heap.size 81 (ints .u32 K) :=
    Blk.rowOther (Blk.alloc ((Blk.new' wT 81 (ints .u32 (zer 64)) rfl).row _ (by rw [ints_length, ints_length, HK.out]; rfl)) _) (by omega) _
  have hW3 : Blk ((((wT.alloc (.cells #[.int .u32 0, .int .u32 0, .int .u32 0, .int .u32 0, .int .u32 0, .int .u32 0, .int .u32 0, .int .u32 0, .int .u32 0, .int .u32 0, .int .u32 0, .int .u32 0, .int .u32 0, .int .u32 0, .int .u32 0, .int .u32 0, .int .u32 0, .int .u32 0, .int .u32 0, .int .u32 0, .int .u32 0, .int .u32 0, .int .u32 0, .int .u32 0, .int .u32 0, .int .u32 0, .int .u32 0, .int .u32 0, .int .u32 0, .int .u32 0, .int .u32 0, .int .u32 0, .int .u32 0, .int .u32 0, .int .u32 0, .int .u32 0, .int .u32 0, .int .u32 0, .int .u32 0, .int .u32 0, .int .u32 0, .int .u32 0, .int .u32 0, .int .u32 0, .int .u32 0, .int .u32 0, .int .u32 0, .int .u32 0, .int .u32 0, .int .u32 0, .int .u32 0, .int .u32 0, .int .u32 0, .int .u32 0, .int .u32 0, .int .u32 0, .int .u32 0, .int .u32 0, .int .u32 0, .int .u32 0, .int .u32 0, .int .u32 0, .int .u32 0, .int .u32 0] 81)).setRow wT.heap.size (ints .u32 K).toArray).alloc (.cells #[.int .u32 0, .int .u32 0, .int .u32 0, .int .u32 0, .int .u32 0, .int .u32 0, .int .u32 0, .int .u32 0, .int .u32 0, .int .u32 0, .int .u32 0, .int .u32 0, .int .u32 0, .int .u32 0, .int .u32 0, .int .u32 0, .int .u32 0, .int .u32 0, .int .u32 0, .int .u32 0, .int .u32 0, .int .u32 0, .int .u32 0, .int .u32 0, .int .u32 0, .int .u32 0, .int .u32 0, .int .u32 0, .int .u32 0, .int .u32 0, .int .u32 0, .int .u32 0, .int .u32 0, .int .u32 0, .int .u32 0, .int .u32 0, .int .u32 0, .int .u32 0, .int .u32 0, .int .u32 0, .int .u32 0, .int .u32 0, .int .u32 0, .int .u32 0, .int .u32 0, .int .u32 0, .int .u32 0, .int .u32 0, .int .u32 0, .int .u32 0, .int .u32 0, .int .u32 0, .int .u32 0, .int .u32 0, .int .u32 0, .int .u32 0, .int .u32 0, .int .u32 0, .int .u32 0, .int .u32 0, .int .u32 0, .int .u32 0, .int .u32 0, .int .u32 0] 81)).setRow (wT.heap.size + 1) (ints .u32 (zer 64)).toArray) (wT.heap.size + 1) 81 (ints .u32 (zer 64)) := (hZ1 _ _).row _ rfl
  have hT3 : Below wT.heap.size wT ((((wT.alloc (.cells #[.int .u32 0, .int .u32 0, .int .u32 0, .int .u32 0, .int .u32 0, .int .u32 0, .int .u32 0, .int .u32 0, .int .u32 0, .int .u32 0, .int .u32 0, .int .u32 0, .int .u32 0, .int .u32 0, .int .u32 0, .int .u32 0, .int .u32 0, .int .u32 0, .int .u32 0, .int .u32 0, .int .u32 0, .int .u32 0, .int .u32 0, .int .u32 0, .int .u32 0, .int .u32 0, .int .u32 0, .int .u32 0, .int .u32 0, .int .u32 0, .int .u32 0, .int .u32 0, .int .u32 0, .int .u32 0, .int .u32 0, .int .u32 0, .int .u32 0, .int .u32 0, .int .u32 0, .int .u32 0, .int .u32 0, .int .u32 0, .int .u32 0, .int .u32 0, .int .u32 0, .int .u32 0, .int .u32 0, .int .u32 0, .int .u32 0, .int .u32 0, .int .u32 0, .int .u32 0, .int .u32 0, .int .u32 0, .int .u32 0, .int .u32 0, .int .u32 0, .int .u32 0, .int .u32 0, .int .u32 0, .int .u32 0, .int .u32 0, .int .u32 0, .int .u32 0] 81)).setRow wT.heap.size (ints .u32 K).toArray).alloc (.cells #[.int .u32 0, .int .u32 0, .int .u32 0, .int .u32 0, .int .u32 0, .int .u32 0, .int .u32 0, .int .u32 0, .int .u32 0, .int .u32 0, .int .u32 0, .int .u32 0, .int .u32 0, .int .u32 0, .int .u32 0, .int .u32 0, .int .u32 0, .int .u32 0, .int .u32 0, .int .u32 0, .int .u32 0, .int .u32 0, .int .u32 0, .int .u32 0, .int .u32 0, .int .u32 0, .int .u32 0, .int .u32 0, .int .u32 0, .int .u32 0, .int .u32 0, .int .u32 0, .int .u32 0, .int .u32 0, .int .u32 0, .int .u32 0, .int .u32 0, .int .u32 0, .int .u32 0, .int .u32 0, .int .u32 0, .int .u32 0, .int .u32 0, .int .u32 0, .int .u32 0, .int .u32 0, .int .u32 0, .int .u32 0, .int .u32 0, .int .u32 0, .int .u32 0, .int .u32 0, .int .u32 0, .int .u32 0, .int .u32 0, .int .u32 0, .int .u32 0, .int .u32 0, .int .u32 0, .int .u32 0, .int .u32 0, .int .u32 0, .int .u32 0, .int .u32 0] 81)).setRow (wT.heap.size + 1) (ints .u32 (zer 64)).toArray) := below_setRow ((below_setRow ((Below.refl _ _).alloc (Nat.le_refl _) _) (Nat.le_refl _) _).alloc (by simp) _) (by omega) _
  generalize World.setRow (World.alloc (World.setRow (World.alloc wT _) _ _) _) _ _ = w3 at *
  clear hZ1
  have h3 : Below w.heap.size w w3 := hT.trans (hT3.mono hT.size)
  have hv3 := hvT.below hT3 hvT.lt
  have hr3 := hrT.below hT3 hrT.lt
  have hblk3 : w3.rangeAt g off (ints .u8 blk) := fun j u hj => by rw [h3.cell hg]; exact hr j u hj
  have hgB : g < wT.heap.size + 1 := by omega
  generalize wT.heap.size = B at *
  clear hT hvT hrT hT3 hr
  go_loopw [7] (fun i wr => ∃ k : Nat, k ≤ 16 ∧ i = .int .i64 k ∧ Blk wr (B + 1) 81 (ints .u32 (first16 (bs blk) k)) ∧ Below (B + 1) w3 wr) (fun i _ => 16 - (intOf i).toNat)
  case atStart => exact ⟨0, by omega, rfl, hW3, Below.refl _ _⟩
  case round =>
    obtain ⟨k, hk, rfl, hf, hb⟩ := hrel
    by_cases hlt : k < 16
    · have hcell : ∀ j, j < 4 → wr.cell? ⟨g, off + (4 * k + j), none⟩ = some (.int .u8 (byteN (bs blk) (4 * k + j))) := fun j hj => by
        rw [hb.cell hgB, byteN_bs blk ho]
        exact hblk3 (4 * k + j) _ (ints_get .u8 blk _ (by rw [HB.out]; omega))
      have c0 := hcell 0 (by omega)
      have c1 := hcell 1 (by omega)
      have c2 := hcell 2 (by omega)
      have c3 := hcell 3 (by omega)
      have hset := first16_set (bs blk) k (by omega)
      rw [pre_quad] at hset
      have q0 := byteN_lt (bs blk) (4 * k)
      have q1 := byteN_lt (bs blk) (4 * k + 1)
      have q2 := byteN_lt (bs blk) (4 * k + 2)
      have q3 := byteN_lt (bs blk) (4 * k + 3)
      have hlen := first16_len (bs blk) k (by omega)
      have hfr := hf.free k
      have hcw := hf.int (j := k) (by omega)
      have Hs := Lib.hid hset
      clear hset hcell hlen
      rw [Nat.add_zero] at c0
      generalize byteN (bs blk) (4 * k) = a0 at *
      generalize byteN (bs blk) (4 * k + 1) = a1 at *
      generalize byteN (bs blk) (4 * k + 2) = a2 at *
      generalize byteN (bs blk) (4 * k + 3) = a3 at *
      have hq := or_quad a0 a1 a2 a3 q0 q1 q2 q3
      obtain ⟨q00, q01⟩ := q0
      obtain ⟨q10, q11⟩ := q1
      obtain ⟨q20, q21⟩ := q2
      obtain ⟨q30, q31⟩ := q3
      have e0 : IntKind.i64.wrap (4 * (k : Int)) = 4 * (k : Int) := IntWalk.i64_in _ (by omega)
      have e1 : IntKind.i64.wrap (4 * (k : Int) + 1) = 4 * (k : Int) + 1 := IntWalk.i64_in _ (by omega)
      have e2 : IntKind.i64.wrap (4 * (k : Int) + 2) = 4 * (k : Int) + 2 := IntWalk.i64_in _ (by omega)
      have e3 : IntKind.i64.wrap (4 * (k : Int) + 3) = 4 * (k : Int) + 3 := IntWalk.i64_in _ (by omega)
      have t0 : (4 * (k : Int)).toNat = 4 * k := by omega
      have t1 : (4 * (k : Int) + 1).toNat = 4 * k + 1 := by omega
      have t2 : (4 * (k : Int) + 2).toNat = 4 * k + 2 := by omega
      have t3 : (4 * (k : Int) + 3).toNat = 4 * k + 3 := by omega
      have z0 : (0 : Int) ≤ 4 * (k : Int) := by omega
      have z1 : (0 : Int) ≤ 4 * (k : Int) + 1 := by omega
      have z2 : (0 : Int) ≤ 4 * (k : Int) + 2 := by omega
      have z3 : (0 : Int) ≤ 4 * (k : Int) + 3 := by omega
      have y0 : 4 * (k : Int) < 64 := by omega
      have y1 : 4 * (k : Int) + 1 < 64 := by omega
      have y2 : 4 * (k : Int) + 2 < 64 := by omega
      have y3 : 4 * (k : Int) + 3 < 64 := by omega
      have yk : (k : Int) < 64 := by omega
      go_wp2
      refine wp_region_still_tail 35 mixed (by kernel_rfl) ?_
      simp only [List.take_succ_cons, List.take_zero, List.drop_succ_cons, List.drop_zero]
      change wpStill _ _ (World.drew _) _ _ _
      repeat still_step
      refine wpStill_nil ?_
      change wpList _ _ _ _ _ (World.drew _)
      clear e0 e1 e2 e3
      go_wp2
      refine ⟨⟨k + 1, by omega, by go_num, ?_, (hb.drew).setCell (Nat.le_refl _) _⟩, by simp [intOf]; omega⟩
      rw [← Hs.out]
      exact (hf.drew).setInt k _
    · obtain rfl : k = 16 := by omega
      go_wp2
      obtain ⟨wo, rfl⟩ : ∃ wo : World, wo = wr := ⟨_, rfl⟩
      go_loopw [8] (fun i wq => ∃ n : Nat, 16 ≤ n ∧ n ≤ 64 ∧ i = .int .i64 (n : Int) ∧ Blk wq (B + 1) 81 (ints .u32 (schedN (first16 (bs blk) 16) (n - 16))) ∧ Below (B + 1) w3 wq) (fun i _ => 64 - (intOf i).toNat)
      case atStart => exact ⟨16, by omega, by omega, rfl, hf, hb⟩
      case round =>
        obtain ⟨n, hn16, hn64, rfl, hf', hb'⟩ := hrel
        clear hf hb
        by_cases hln : n < 64
        · have hsucc : schedN (first16 (bs blk) 16) (n + 1 - 16) = (schedN (first16 (bs blk) 16) (n - 16)).set n (nextW (schedN (first16 (bs blk) 16) (n - 16)) n) := by
            rw [show n + 1 - 16 = (n - 16) + 1 by omega]
            show (schedN _ (n - 16)).set (16 + (n - 16)) _ = _
            rw [show 16 + (n - 16) = n by omega]
          have hll : (schedN (first16 (bs blk) 16) (n - 16)).length = 64 := by rw [schedN_len, first16_len _ _ (by omega)]
          have Hs := Lib.hid hsucc
          clear hsucc
          generalize schedN (first16 (bs blk) 16) (n - 16) = l at *
          have c16 := hf'.int (j := n - 16) (by omega)
          have c7 := hf'.int (j := n - 7) (by omega)
          have c15 := hf'.int (j := n - 15) (by omega)
          have c2 := hf'.int (j := n - 2) (by omega)
          have c0 := hf'.int (j := n) (by omega)
          have hfr := hf'.free n
          have b1 : (0 : Int) ≤ (n : Int) - 15 ∧ (n : Int) - 15 < 64 := by omega
          have b2 : (0 : Int) ≤ (n : Int) - 2 ∧ (n : Int) - 2 < 64 := by omega
          have b5 : (n : Int) < 64 := by omega
          have x1 : ((n : Int) - 15).toNat = n - 15 := by omega
          have x2 : ((n : Int) - 2).toNat = n - 2 := by omega
          have x3 : ((n : Int) - 16).toNat = n - 16 := by omega
          have x4 : ((n : Int) - 7).toNat = n - 7 := by omega
          have b30 : (0 : Int) ≤ (n : Int) - 16 := by omega
          have b31 : (n : Int) - 16 < 64 := by omega
          have b40 : (0 : Int) ≤ (n : Int) - 7 := by omega
          have b41 : (n : Int) - 7 < 64 := by omega
          have b50 : (0 : Int) ≤ (n : Int) := by omega
          have b32 : (16 : Int) ≤ (n : Int) := by omega
          have b42 : (7 : Int) ≤ (n : Int) := by omega
          have b43 : (15 : Int) ≤ (n : Int) := by omega
          have b44 : (2 : Int) ≤ (n : Int) := by omega
          have e16 : IntKind.i64.wrap ((n : Int) - 16) = (n : Int) - 16 := IntWalk.i64_in _ (by omega)
          have e7 : IntKind.i64.wrap ((n : Int) - 7) = (n : Int) - 7 := IntWalk.i64_in _ (by omega)
          clear hll
          go_wp2
          refine region_drew_tail 29 mixed (by kernel_rfl) ?_
          simp only [List.take_succ_cons, List.take_zero, List.drop_succ_cons, List.drop_zero]
          repeat (first | go_big_quiet_step ((go_at_call 45; exact Calls.quiet_of (r_rot _ _ _ (by omega) (by omega)))) | quiet_step ((go_at_call 45; exact Calls.quiet_of (r_rot _ _ _ (by omega) (by omega)))))
          refine wpQuiet_nil ?_
          rintro _ ⟨nq, rfl⟩
          clear e16 e7
          go_wp2
          refine ⟨⟨n + 1, by omega, by omega, by go_num, ?_, ((below_drewN hb' nq)).setCell (Nat.le_refl _) _⟩, by simp [intOf]; omega⟩
          rw [Hs.out]
          have := (hf'.drewN nq).setInt n (nextW l n)
          simp only [nextW, sg0, sg1, List.getD_eq_getElem?_getD] at this ⊢
          exact this
        · obtain rfl : n = 64 := by omega
          have hS : Blk wr (B + 1) 81 (ints .u32 (sched (bs blk))) := hf'
          have hv4 := hv3.below hb' (by omega)
          have hr4 := hr3.below hb' (by omega)
          have hK4 := hK3.below hb' (by omega)
          have h4 : Below w.heap.size w wr := h3.trans (hb'.mono (by omega))
          have hBs := hS.lt
          clear hf' hb' hv3 hr3 hK3 h3 hblk3 hW3
          have hsl := sched_len (bs blk)
          generalize hsc : sched (bs blk) = W at *
          have HSc := Lib.hid hsc
          clear hsc
          have HW := Lib.hid hsl
          clear hsl
          obtain ⟨wo2, rfl⟩ : ∃ wo : World, wo = wr := ⟨_, rfl⟩
          have hBV : ∀ c, Blk (wo2.alloc (.cells c 70)) wo2.heap.size 70 c.toList := fun c => Blk.new' wo2 70 c.toList (by simp)
          go_wp2_with (first | (refine wpList_load_blk rfl 70 _ rfl w.heap.size rfl hv4 Try.underlying70 rfl (by rw [size_h8, ints_length, HV.out]) ?_) | (refine wpList_store_blk rfl 70 _ _ rfl wo2.heap.size (ints .u32 v) rfl rfl (Blk.new' wo2 70 (ints .u32 (zer 8)) rfl) (by rw [size_h8, ints_length, HV.out]) (by rw [ints_length, ints_length, HV.out]; rfl) (ints_one _ _) ?_))
          have hV5 : Blk ((wo2.alloc (.cells #[.int .u32 0, .int .u32 0, .int .u32 0, .int .u32 0, .int .u32 0, .int .u32 0, .int .u32 0, .int .u32 0] 70)).setRow wo2.heap.size (ints .u32 v).toArray) wo2.heap.size 70 (ints .u32 v) := (Blk.new' wo2 70 (ints .u32 (zer 8)) rfl).row _ (by rw [ints_length, ints_length, HV.out]; rfl)
          have h5 : Below wo2.heap.size wo2 ((wo2.alloc (.cells #[.int .u32 0, .int .u32 0, .int .u32 0, .int .u32 0, .int .u32 0, .int .u32 0, .int .u32 0, .int .u32 0] 70)).setRow wo2.heap.size (ints .u32 v).toArray) := below_setRow ((Below.refl _ _).alloc (Nat.le_refl _) _) (Nat.le_refl _) _
          generalize World.setRow _ _ _ = w5 at *
          have hv5 := hv4.below h5 hv4.lt
          have hr5 := hr4.below h5 hr4.lt
          have hK5 := hK4.below h5 hK4.lt
          have hS5 := hS.below h5 hS.lt
          have h5' : Below w.heap.size w w5 := h4.trans (h5.mono h4.size)
          generalize wo2.heap.size = C at *
          clear hv4 hr4 hK4 hS h4 h5 hBV
          go_loopw [12] (fun i wr => ∃ k : Nat, k ≤ 64 ∧ i = .int .i64 k ∧ Blk wr C 70 (ints .u32 (shaRounds K W v k)) ∧ Below C w5 wr) (fun i _ => 64 - (intOf i).toNat)
          case atStart => exact ⟨0, by omega, rfl, hV5, Below.refl _ _⟩
          case round =>
            obtain ⟨k, hk, rfl, hz, hb⟩ := hrel
            have hK6 := hK5.below hb (by omega)
            have hS6 := hS5.below hb (by omega)
            by_cases hlt : k < 64
            · have hKc := hK6.int (j := k) (by rw [HK.out]; omega)
              have hWc := hS6.int (j := k) (by rw [HW.out]; omega)
              have hrd : shaRounds K W v (k + 1) = shaStep (shaRounds K W v k) ((K.getD k 0 + W.getD k 0) % 4294967296) := rfl
              obtain ⟨a, b, c, d, e, f, g', h, hl⟩ := list8 _ (shaRounds_len K W v HV.out k)
              rw [hl] at hrd hz
              have Hr := Lib.hid hrd
              clear hrd hl
              generalize K.getD k 0 = kk at *
              generalize W.getD k 0 = ww at *
              have c0 : wr.cell? ⟨C, 0, none⟩ = some (.int .u32 a) := hz.cell 0
              have c1 : wr.cell? ⟨C, 1, none⟩ = some (.int .u32 b) := hz.cell 1
              have c2 : wr.cell? ⟨C, 2, none⟩ = some (.int .u32 c) := hz.cell 2
              have c3 : wr.cell? ⟨C, 3, none⟩ = some (.int .u32 d) := hz.cell 3
              have c4 : wr.cell? ⟨C, 4, none⟩ = some (.int .u32 e) := hz.cell 4
              have c5 : wr.cell? ⟨C, 5, none⟩ = some (.int .u32 f) := hz.cell 5
              have c6 : wr.cell? ⟨C, 6, none⟩ = some (.int .u32 g') := hz.cell 6
              have c7 : wr.cell? ⟨C, 7, none⟩ = some (.int .u32 h) := hz.cell 7
              have hk64 : (k : Int) < 64 := by omega
              have hsg : IntKind.u32.signed = false := rfl
              go_wp2
              go_quiet ((go_at_call 45; exact Calls.quiet_of (r_rot _ _ _ (by omega) (by omega))))
              go_wp2_with fail
              have hz6 := hz.drewN nq
              have hb6 := below_drewN hb nq
              have d0 : (wr.drewN nq).cell? ⟨C, 0, none⟩ = some (.int .u32 a) := c0
              have d1 : (wr.drewN nq).cell? ⟨C, 1, none⟩ = some (.int .u32 b) := c1
              have d2 : (wr.drewN nq).cell? ⟨C, 2, none⟩ = some (.int .u32 c) := c2
              have d3 : (wr.drewN nq).cell? ⟨C, 3, none⟩ = some (.int .u32 d) := c3
              have d4 : (wr.drewN nq).cell? ⟨C, 4, none⟩ = some (.int .u32 e) := c4
              have d5 : (wr.drewN nq).cell? ⟨C, 5, none⟩ = some (.int .u32 f) := c5
              have d6 : (wr.drewN nq).cell? ⟨C, 6, none⟩ = some (.int .u32 g') := c6
              have d7 : (wr.drewN nq).cell? ⟨C, 7, none⟩ = some (.int .u32 h) := c7
              generalize wr.drewN nq = w6 at *
              clear c0 c1 c2 c3 c4 c5 c6 c7 hKc hWc
              go_quiet ((go_at_call 45; exact Calls.quiet_of (r_rot _ _ _ (by omega) (by omega))))
              go_wp2_with (first | (refine wpList_store_blk rfl 70 _ _ rfl C (ints .u32 [_, _, _, _, _, _, _, _]) rfl rfl (hz6.drewN _) (by rw [size_h8]; rfl) rfl (ints_one _ _) ?_))
              refine ⟨⟨k + 1, by omega, by go_num, ?_, below_setRow (below_drewN hb6 _) (Nat.le_refl _) _⟩, by simp [intOf]; omega⟩
              rw [Hr.out, ← ref_row]
              exact (hz6.drewN _).row _ rfl
            · obtain rfl : k = 64 := by omega
              have hx8 := shaRounds_len K W v HV.out 64
              have hv6 := hv5.below hb (by omega)
              have hr6 := hr5.below hb (by omega)
              have hw6 : Below w.heap.size w wr := h5'.trans (hb.mono (by omega))
              generalize hX : shaRounds K W v 64 = X at *
              have HX := Lib.hid hX
              have HX8 := Lib.hid hx8
              clear hX hx8 hK6 hS6 hv5 hr5 hK5 hS5 h5' hb hV5
              go_wp2
              obtain ⟨wo3, rfl⟩ : ∃ wo : World, wo = wr := ⟨_, rfl⟩
              go_loopw [15] (fun i wr => ∃ k : Nat, k ≤ 8 ∧ i = .int .i64 k ∧ Blk wr w.heap.size 70 (ints .u32 (addN v X k)) ∧ Blk wr (w.heap.size + 1) 70 (ints .u32 (zer 8)) ∧ Blk wr C 70 (ints .u32 X) ∧ Below w.heap.size w wr) (fun i _ => 8 - (intOf i).toNat)
              case atStart => exact ⟨0, by omega, rfl, hv6, hr6, hz, hw6⟩
              case round =>
                obtain ⟨k, hk8, rfl, hh, hres, hxx, hbel⟩ := hrel
                clear hv6 hr6 hz hw6
                have hl8 := addN_len v X k
                rw [HV.out] at hl8
                by_cases hlt : k < 8
                · have hstep : addN v X (k + 1) = (addN v X k).set k (((addN v X k).getD k 0 + X.getD k 0) % 4294967296) := rfl
                  have Hs := Lib.hid hstep
                  clear hstep
                  generalize addN v X k = y at *
                  have cy := hh.int (j := k) (by omega)
                  have cx := hxx.int (j := k) (by rw [HX8.out]; omega)
                  have fy := hh.free k
                  have hk64 : (k : Int) < 8 := by omega
                  clear hl8
                  generalize hyk : y.getD k 0 = yk at *
                  generalize hxk : X.getD k 0 = xk at *
                  have HYk := Lib.hid hyk
                  clear hyk hxk
                  go_wp2
                  refine wp_region_still_tail 9 mixed (by kernel_rfl) ?_
                  simp only [List.take_succ_cons, List.take_zero, List.drop_succ_cons, List.drop_zero]
                  change wpStill _ _ (World.drew _) _ _ _
                  repeat still_step
                  refine wpStill_nil ?_
                  change wpList _ _ _ _ _ (World.drew _)
                  go_wp2
                  go_roundw
                  case rel =>
                    repeat apply Exists.intro
                    refine ⟨?_, rfl⟩
                    refine ⟨k + 1, by omega, by go_num, ?_, (hres.drew).other (by simp) _, (hxx.drew).other (by simp; omega) _, (hbel.drew).setCell (Nat.le_refl _) _⟩
                    rw [Hs.out]
                    exact (hh.drew).setInt k _
                  case measure => simp [intOf]; omega
                · obtain rfl : k = 8 := by omega
                  have hR : Blk wr w.heap.size 70 (ints .u32 (addN v X 8)) := hh
                  go_wp2_with (first | (refine wpList_load_blk rfl 70 _ rfl w.heap.size rfl hR Try.underlying70 rfl (by rw [size_h8, ints_length, hl8]) ?_) | (refine wpList_store_blk rfl 70 _ _ rfl (w.heap.size + 1) (ints .u32 (addN v X 8)) rfl rfl hres (by rw [size_h8, ints_length, hl8]) (by rw [ints_length, ints_length, hl8]; rfl) (ints_one _ _) ?_))
                  refine bodyPost_ret (v := .agg (ints .u32 (addN v X 8)).toArray) (results_cell_blk rfl _ _ _ rfl (hres.row (ints .u32 (addN v X 8)) (by rw [ints_length, ints_length, hl8]; rfl)) Try.underlying70 rfl (by rw [size_h8, ints_length, hl8])) rfl ⟨?_, below_setRow hbel (by omega) _⟩
                  rw [HSc.out, HX.out]
end Go.Proofs.Ytbobdbdknapdcaa
