/- Walks of the reference's Bits, Bytes and Pack. -/
import Derived.Test.YtpjihjbgihionaaJ1
import Derived.Test.YtpjihjbgihionaaG1
namespace Go.Proofs.Ytpjihjbgihionaa
open Go.RowKit
set_option linter.unusedVariables false

/-- a slice of bytes of the call's own is handed back -/
def OwnRet (e : TypeId) (l : List Nat) (w : World) (r : Ending) (w' : World) : Prop := ∃ v, r = .returned v ∧ OwnB w' w.heap.size e v (nn l) ∧ Below w.heap.size w w'
def rowsB (l : List Nat) : List (List Value) := l.map fun (n : Nat) => [.int .u8 (n : Int)]
theorem rowsB_len (l : List Nat) : (rowsB l).length = l.length := by simp [rowsB]
theorem rowsB_flat : ∀ l : List Nat, (rowsB l).flatten = ints .u8 (nn l)
  | [] => rfl
  | n :: l => by
    have e : rowsB (n :: l) = [.int .u8 (n : Int)] :: rowsB l := rfl
    rw [e, List.flatten_cons, rowsB_flat l]
    rfl
theorem OwnB.sl {w : World} {base : Nat} {e : TypeId} {v : Value} {l : List Nat} (h : OwnB w base e v (nn l)) : Sl w 1 v (rowsB l) := by
  refine OwnR.sl (base := base) (e := e) ⟨fun r hr => ?_, ?_⟩
  · simp only [rowsB, List.mem_map] at hr
    obtain ⟨n, _, rfl⟩ := hr
    rfl
  · unfold OwnB at h
    rw [nn_length] at h
    rw [rowsB_len, rowsB_flat]
    exact h
theorem rowsB_at {l : List Nat} {j : Nat} (h : j < l.length) : (rowsB l)[j]? = some [.int .u8 ((l.getD j 0 : Nat) : Int)] := by simp [rowsB, h]
theorem own_empty (w : World) (base : Nat) (e : TypeId) (hb : base ≤ w.heap.size) : OwnB (w.alloc (.cells #[] e)) base e (.slice (some ⟨w.heap.size, 0, none⟩) 0 0) (nn []) := World.ownsRow_lit w #[] 0 hb (by simp [maxLen]) (by simp)
set_option maxRecDepth 100000 in
set_option maxHeartbeats 2000000 in
theorem r_Bits (l : List (Nat × Int)) (p : Option Addr) (cap : Nat) (w : World) (hl : l.length ≤ 1000000) (hu : ∀ q ∈ l, q.1 < 4294967296) (hS : Sl w 2 (.slice p l.length cap) (rowsP l)) (hyes : ∀ q ∈ l, mayP q) :
    Calls Try.prog 44 #[.slice p l.length cap] w (OwnRet 5 (bitsP l) w) := by
  have HY := Lib.hid hyes
  have HU := Lib.hid hu
  clear hyes hu
  have k0 := own_empty w w.heap.size 5 (Nat.le_refl _)
  have kb := (Below.refl w.heap.size w).alloc (Nat.le_refl _) (.cells #[] 5)
  have k0 := Lib.hid k0
  have kb := Lib.hid kb
  go_enter Try.func44, Try.ntmps44
  go_wp2
  go_loopw [3, 4] (fun u i wr => ∃ j : Nat, j ≤ l.length ∧ i = .int .i64 (j : Int) ∧ OwnB wr w.heap.size 5 u (nn (bitsP (l.take j))) ∧ Below w.heap.size w wr) (fun _ i _ => l.length - (intOf i).toNat)
  case atStart => exact ⟨0, by omega, rfl, k0.out, kb.out⟩
  case round =>
    obtain ⟨j, hj, rfl, go, gb⟩ := hrel
    by_cases hlt : j < l.length
    · have d1 : (j : Int) < (l.length : Int) := by omega
      have hsn := bitsP_snoc l j hlt
      have hm := HY.out _ (List.getElem_mem hlt)
      have hqu := HU.out _ (List.getElem_mem hlt)
      have hrow : ∀ wx, Below w.heap.size w wx → ∃ a : Addr, p = some a ∧ wx.cell? (a.add (j * 2)) = some (.int .u32 (l[j].1 : Int)) ∧ wx.cell? ⟨(a.add (j * 2)).block, (a.add (j * 2)).off + 1, none⟩ = some (.int .i64 l[j].2) := fun wx h => by
        obtain ⟨a, e, hc⟩ := (hS.below h).row (rowsP_at hlt)
        exact ⟨a, e, by have := hc 0 _ rfl; rwa [show (a.add (j * 2)).add 0 = a.add (j * 2) from rfl] at this, hc 1 _ rfl⟩
      obtain ⟨a, rfl, _, _⟩ := hrow wr gb
      have hc0 : ∀ wx, Below w.heap.size w wx → wx.cell? (a.add (j * 2)) = some (.int .u32 (l[j].1 : Int)) := fun wx h => by
        obtain ⟨a', e, h1, _⟩ := hrow wx h
        cases e; exact h1
      have hc1 : ∀ wx, Below w.heap.size w wx → wx.cell? ⟨(a.add (j * 2)).block, (a.add (j * 2)).off + 1, none⟩ = some (.int .i64 l[j].2) := fun wx h => by
        obtain ⟨a', e, _, h1⟩ := hrow wx h
        cases e; exact h1
      have hle := bitsP_len (l := l.take j) (fun q hq => HY.out q (List.mem_of_mem_take hq))
      have hsz := sizeP_le (l.take j)
      have htl : (l.take j).length ≤ j := by simp; omega
      generalize l[j] = q at *
      obtain ⟨n, x⟩ := q
      have hx0 : (0 : Int) ≤ x := hm.1
      have hx1 : x ≤ 24 := hm.2.1
      obtain ⟨k, rfl⟩ : ∃ k : Nat, x = (k : Int) := ⟨x.toNat, by omega⟩
      have hk : k ≤ 24 := by omega
      have hbl : (bitsP (l.take j)).length ≤ 24000000 := by omega
      have HSN := Lib.hid hsn
      have HC0 := Lib.hid hc0
      have HC1 := Lib.hid hc1
      clear hsn hc0 hc1 hrow hS hm hle hsz htl k0 kb
      go_wp2_with fail
      go_loopw [3, 5] (fun u i wr => ∃ m : Nat, m ≤ k ∧ i = .int .i64 (m : Int) ∧ OwnB wr w.heap.size 5 u (nn (bitsP (l.take j) ++ bitsN n m)) ∧ Below w.heap.size w wr) (fun _ i _ => k - (intOf i).toNat)
      case atStart => exact ⟨0, by omega, rfl, by rw [show bitsN n 0 = [] from rfl, List.append_nil]; exact go, gb⟩
      case round =>
        obtain ⟨m, hmk, rfl, go2, gb2⟩ := hrel
        clear go gb
        have c0 := HC0.out wr gb2
        have c1 := HC1.out wr gb2
        by_cases hlk : m < k
        · have d2 : (m : Int) < (k : Int) := by omega
          have i2 : (m : Int).toNat = m := by omega
          have i3 : (0 : Int) ≤ (m : Int) := by omega
          have hv : (n : Int) / 2 ^ m = ((n / 2 ^ m : Nat) : Int) := by simp
          have hlt2 : n / 2 ^ m < 4294967296 := Nat.lt_of_le_of_lt (Nat.div_le_self _ _) hqu
          obtain ⟨z, hz⟩ : ∃ z, n / 2 ^ m % 2 = z := ⟨_, rfl⟩
          have hand : bits .and .u32 ((n : Int) / 2 ^ m) 1 = (z : Int) := by rw [hv, ← hz]; exact and_one_u32 _ hlt2
          have hz2 : (z : Int) < 2 := by rw [← hz]; have := Nat.mod_lt (n / 2 ^ m) (show 0 < 2 by decide); omega
          have hz0 : (0 : Int) ≤ (z : Int) := by omega
          have hzm : (z : Int) % 256 = (z : Int) := by omega
          have hbn : nn (bitsP (l.take j) ++ bitsN n (m + 1)) = nn (bitsP (l.take j) ++ bitsN n m) ++ [(z : Int)] := by rw [bitsN_succ, hz, ← List.append_assoc, nn_app]; rfl
          have hbig : (nn (bitsP (l.take j) ++ bitsN n m)).length + [(z : Int)].length ≤ 140737488355328 := by rw [nn_length, List.length_append, bitsN_len, List.length_singleton]; omega
          have hown := go2.alloc (.cells #[.int .u8 (z : Int)] 5)
          have hnews := (Blk.new' wr 5 (c := #[.int .u8 (z : Int)]) (ints .u8 [(z : Int)]) rfl).whole
          have hlo := go2.lt
          have hgb := gb2.alloc gb2.size (.cells #[.int .u8 (z : Int)] 5)
          have hbase : w.heap.size ≤ (wr.alloc (.cells #[.int .u8 (z : Int)] 5)).heap.size := hgb.size
          have HBN := Lib.hid hbn
          have HBIG := Lib.hid hbig
          have HOW := Lib.hid hown
          have HNW := Lib.hid hnews
          have HLO := Lib.hid hlo
          have HGB := Lib.hid hgb
          have HBA := Lib.hid hbase
          clear hv hlt2 hz hbn hbig hown hnews hlo hgb hbase go2 gb2
          generalize nn (bitsP (l.take j) ++ bitsN n m) = L at *
          go_wp2_with (refine wpList_append_bytes rfl _ _ 40 rfl w.heap.size 5 Try.underlying40 info_u8 _ L rfl HOW.out wr.heap.size 1 1 [(z : Int)] rfl rfl HNW.out HBIG.out HBA.out ?_; intro v' w5 ho5 hg5)
          have gb5 := HGB.out.grown hg5 HBA.out (fun k e => (HLO.out k e).1)
          go_roundw
          case rel => exact ⟨m + 1, by omega, by go_num, by rw [HBN.out]; exact ho5, gb5⟩
          case measure => simp [intOf]; omega
        · obtain rfl : m = k := by omega
          go_wp2
          go_roundw
          case rel => exact ⟨j + 1, by omega, by go_num, by rw [HSN.out]; exact go2, gb2⟩
          case measure => simp [intOf]; omega
    · obtain rfl : j = l.length := by omega
      rw [List.take_length] at go
      go_wp2
      go_ret
      exact ⟨_, rfl, go, gb⟩
theorem bytesB_take {b : List Nat} {j : Nat} (h : 8 * j < b.length) : (bytesB b).take (j + 1) = (bytesB b).take j ++ [accB (fun t => b.getD (8 * j + t) 0) 8] := by
  have hl : j < (bytesB b).length := by rw [bytesB_len]; omega
  rw [take_snoc _ _ hl]
  congr 1
  unfold bytesB
  rw [map_range_getD _ _ _ (by omega)]
theorem accB_end {b : List Nat} {q m : Nat} (hm : m ≤ 8) (h : m = 8 ∨ b.length ≤ q + m) : accB (fun t => b.getD (q + t) 0) m = accB (fun t => b.getD (q + t) 0) 8 := by
  rcases h with rfl | h
  · rfl
  · have hz := accB_zeros (b := fun t => b.getD (q + t) 0) (m := m) (d := 8 - m) (fun t ht => getD_over (by omega))
    rw [show m + (8 - m) = 8 by omega] at hz
    exact hz.symm
set_option maxRecDepth 100000 in
set_option maxHeartbeats 2000000 in
theorem r_JBytes (b : List Nat) (v : Value) (w : World) (hb : Bits01 b) (hl : b.length ≤ 24000000) (hS0 : Sl w 1 v (rowsB b)) :
    Calls Try.prog 43 #[v] w fun e w' => e = .returned (.string (tx (bytesB b))) ∧ Below w.heap.size w w' := by
  obtain ⟨p, cap, rfl⟩ := hS0.isSlice
  have hS := hS0
  rw [rowsB_len] at hS ⊢
  clear hS0
  have k0 := own_empty w w.heap.size 5 (Nat.le_refl _)
  have kb := (Below.refl w.heap.size w).alloc (Nat.le_refl _) (.cells #[] 5)
  have k0 := Lib.hid k0
  have kb := Lib.hid kb
  have hlB := bytesB_len b
  have HLB := Lib.hid hlB
  have HB01 := Lib.hid hb
  clear hlB hb
  go_enter Try.func43, Try.ntmps43
  go_wp2
  go_loopw [3, 4] (fun u i wr => ∃ j : Nat, j ≤ (b.length + 7) / 8 ∧ i = .int .i64 ((8 * j : Nat) : Int) ∧ OwnB wr w.heap.size 5 u (nn ((bytesB b).take j)) ∧ Below w.heap.size w wr) (fun _ i _ => b.length - (intOf i).toNat)
  case atStart => exact ⟨0, by omega, rfl, k0.out, kb.out⟩
  case round =>
    obtain ⟨j, hj, rfl, go, gb⟩ := hrel
    obtain ⟨q, hq⟩ : ∃ q, 8 * j = q := ⟨_, rfl⟩
    have HQ := Lib.hid hq
    by_cases hlt : q < b.length
    · have htk := bytesB_take (b := b) (j := j) (by omega)
      rw [hq] at htk ⊢
      have hend := fun m (h8 : m ≤ 8) h => accB_end (b := b) (q := q) h8 h
      have hstep := fun k => accB_or (b := fun t => b.getD (q + t) 0) (k := k) (fun t _ => HB01.out _)
      have hal := fun k => accB_lt (b := fun t => b.getD (q + t) 0) (k := k) (fun t _ => HB01.out _)
      have hcell : ∀ m, q + m < b.length → ∃ a : Addr, p = some a ∧ wr.cell? (a.add (q + m)) = some (.int .u8 ((b.getD (q + m) 0 : Nat) : Int)) := fun m hm => by
        obtain ⟨a, e, hc⟩ := (hS.below gb).row (rowsB_at hm)
        exact ⟨a, e, by have := hc 0 _ rfl; rw [Nat.mul_one] at this; exact this⟩
      obtain ⟨a, rfl, _⟩ := hcell 0 (by omega)
      have hcell2 : ∀ m, q + m < b.length → wr.cell? (a.add (q + m)) = some (.int .u8 ((b.getD (q + m) 0 : Nat) : Int)) := fun m hm => by
        obtain ⟨a', e, hc⟩ := hcell m hm
        cases e; exact hc
      have d1 : (q : Int) < (b.length : Int) := by omega
      have i9 : (b.length : Int) ≤ 24000000 := by omega
      have HTK := Lib.hid htk
      have HEND := Lib.hid hend
      have HSTEP := Lib.hid hstep
      have HAL := Lib.hid hal
      have HC := Lib.hid hcell2
      clear htk hend hstep hal hcell hcell2 hS hq k0 kb
      go_wp2_with fail
      go_loop [5, 6] (fun c i => ∃ m : Nat, m ≤ 8 ∧ q + m ≤ b.length ∧ i = .int .i64 (m : Int) ∧ c = .int .u8 ((accB (fun t => b.getD (q + t) 0) m : Nat) : Int)) (fun _ i => 8 - (intOf i).toNat)
      case atStart => exact ⟨0, by omega, by omega, rfl, rfl⟩
      case round =>
        obtain ⟨m, hm8, hml, rfl, rfl⟩ := hrel
        by_cases h8 : m < 8
        · have d8 : (m : Int) < 8 := by omega
          by_cases hm2 : q + m < b.length
          · have d9 : (q : Int) + (m : Int) < (b.length : Int) := by omega
            have hc := HC.out m hm2
            have hst := HSTEP.out m
            have hz2 := HB01.out (q + m)
            have ha := HAL.out m
            have hpw : 2 ^ m ≤ 2 ^ 7 := Nat.pow_le_pow_right (by decide) (by omega)
            have hpw2 : 2 ^ (m + 1) ≤ 2 ^ 8 := Nat.pow_le_pow_right (by decide) (by omega)
            generalize accB (fun t => b.getD (q + t) 0) m = a0 at *
            generalize ha1 : accB (fun t => b.getD (q + t) 0) (m + 1) = a1 at *
            have HA1 := Lib.hid ha1
            generalize b.getD (q + m) 0 = z at *
            obtain ⟨sh, hsh⟩ : ∃ sh, z * 2 ^ m = sh := ⟨_, rfl⟩
            have hshl : sh ≤ 2 ^ 7 := by
              rw [← hsh]
              have := Nat.mul_le_mul (show z ≤ 1 by omega) hpw
              omega
            have hs1 : (z : Int) * 2 ^ m = (sh : Int) := by rw [← hsh]; simp
            have hs2 : IntKind.u8.wrap (sh : Int) = (sh : Int) := wraps_u8 _ (by omega) (by omega)
            have hor : bits .or .u8 (a0 : Int) (sh : Int) = (a1 : Int) := by
              rw [← hst, hsh]; exact or_byte _ _ (by omega) (by omega)
            have i2 : (m : Int).toNat = m := by omega
            have i3 : (0 : Int) ≤ (m : Int) := by omega
            have i4 : ((q : Int) + (m : Int)).toNat = q + m := by omega
            clear ha1 hst hsh hpw hpw2 ha
            go_wp2
            go_round
            case rel => exact ⟨m + 1, by omega, by omega, by go_num, by rw [HA1.out]⟩
            case measure => simp [intOf]; omega
          · have d9 : ¬ ((q : Int) + (m : Int) < (b.length : Int)) := by omega
            have hce := HEND.out m hm8 (by omega)
            have hc8 := HAL.out 8
            rw [hce]
            have htk : nn ((bytesB b).take (j + 1)) = nn ((bytesB b).take j) ++ [((accB (fun t => b.getD (q + t) 0) 8 : Nat) : Int)] := by rw [HTK.out, nn_app]; rfl
            generalize accB (fun t => b.getD (q + t) 0) 8 = cv at *
            have hbig : (nn ((bytesB b).take j)).length + [(cv : Int)].length ≤ 140737488355328 := by rw [nn_length, List.length_take, List.length_singleton]; omega
            have hown := go.alloc (.cells #[.int .u8 (cv : Int)] 5)
            have hnews := (Blk.new' wr 5 (c := #[.int .u8 (cv : Int)]) (ints .u8 [(cv : Int)]) rfl).whole
            have hlo := go.lt
            have hgb := gb.alloc gb.size (.cells #[.int .u8 (cv : Int)] 5)
            have hbase : w.heap.size ≤ (wr.alloc (.cells #[.int .u8 (cv : Int)] 5)).heap.size := hgb.size
            have HTN := Lib.hid htk
            have HBIG := Lib.hid hbig
            have HOW := Lib.hid hown
            have HNW := Lib.hid hnews
            have HLO := Lib.hid hlo
            have HGB := Lib.hid hgb
            have HBA := Lib.hid hbase
            clear htk hbig hown hnews hlo hgb hbase go gb hce
            generalize nn ((bytesB b).take j) = L at *
            go_wp2_with (refine wpList_append_bytes rfl _ _ 40 rfl w.heap.size 5 Try.underlying40 info_u8 _ L rfl HOW.out wr.heap.size 1 1 [(cv : Int)] rfl rfl HNW.out HBIG.out HBA.out ?_; intro v' w5 ho5 hg5)
            have gb5 := HGB.out.grown hg5 HBA.out (fun k e => (HLO.out k e).1)
            go_roundw
            case rel => exact ⟨j + 1, by have := HQ.out; omega, by have := HQ.out; rw [show ((8 * (j + 1) : Nat) : Int) = (q : Int) + 8 by omega], by rw [HTN.out]; exact ho5, gb5⟩
            case measure => simp [intOf]; omega
        · have d8 : ¬ ((m : Int) < 8) := by omega
          have hce := HEND.out m hm8 (by omega)
          have hc8 := HAL.out 8
          rw [hce]
          have htk : nn ((bytesB b).take (j + 1)) = nn ((bytesB b).take j) ++ [((accB (fun t => b.getD (q + t) 0) 8 : Nat) : Int)] := by rw [HTK.out, nn_app]; rfl
          generalize accB (fun t => b.getD (q + t) 0) 8 = cv at *
          have hbig : (nn ((bytesB b).take j)).length + [(cv : Int)].length ≤ 140737488355328 := by rw [nn_length, List.length_take, List.length_singleton]; omega
          have hown := go.alloc (.cells #[.int .u8 (cv : Int)] 5)
          have hnews := (Blk.new' wr 5 (c := #[.int .u8 (cv : Int)]) (ints .u8 [(cv : Int)]) rfl).whole
          have hlo := go.lt
          have hgb := gb.alloc gb.size (.cells #[.int .u8 (cv : Int)] 5)
          have hbase : w.heap.size ≤ (wr.alloc (.cells #[.int .u8 (cv : Int)] 5)).heap.size := hgb.size
          have HTN := Lib.hid htk
          have HBIG := Lib.hid hbig
          have HOW := Lib.hid hown
          have HNW := Lib.hid hnews
          have HLO := Lib.hid hlo
          have HGB := Lib.hid hgb
          have HBA := Lib.hid hbase
          clear htk hbig hown hnews hlo hgb hbase go gb hce
          generalize nn ((bytesB b).take j) = L at *
          go_wp2_with (refine wpList_append_bytes rfl _ _ 40 rfl w.heap.size 5 Try.underlying40 info_u8 _ L rfl HOW.out wr.heap.size 1 1 [(cv : Int)] rfl rfl HNW.out HBIG.out HBA.out ?_; intro v' w5 ho5 hg5)
          have gb5 := HGB.out.grown hg5 HBA.out (fun k e => (HLO.out k e).1)
          go_roundw
          case rel => exact ⟨j + 1, by have := HQ.out; omega, by have := HQ.out; rw [show ((8 * (j + 1) : Nat) : Int) = (q : Int) + 8 by omega], by rw [HTN.out]; exact ho5, gb5⟩
          case measure => simp [intOf]; omega
    · obtain rfl : j = (b.length + 7) / 8 := by omega
      have hfull : (bytesB b).take ((b.length + 7) / 8) = bytesB b := List.take_of_length_le (by rw [HLB.out]; exact Nat.le_refl _)
      rw [hfull] at go
      rw [hq]
      have d1 : ¬ ((q : Int) < (b.length : Int)) := by omega
      clear hfull hq k0 kb hS
      go_wp2_with (refine wpList_string_own rfl 40 9 5 _ rfl w.heap.size _ (nn (bytesB b)) rfl Try.underlying40 Try.underlying5 Try.underlying9 go ?_)
      go_ret
      exact ⟨rfl, gb⟩
end Go.Proofs.Ytpjihjbgihionaa
