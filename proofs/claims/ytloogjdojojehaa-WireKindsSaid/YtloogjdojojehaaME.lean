/- A builder's WriteString and Write: they leave blocks of other types alone (stage 18). Written by gen/mkwr.py out of XBld's and XHEnc's texts. -/
import Derived.Test.YtloogjdojojehaaHP1
import Derived.Test.YtloogjdojojehaaJ1
import Derived.Test.YtloogjdojojehaaMA
import Derived.Test.YtloogjdojojehaaZ0
import Derived.Test.YtloogjdojojehaaV1
import Derived.Test.YtloogjdojojehaaHG
import Derived.Test.YtloogjdojojehaaMD
namespace Go.Proofs.Ytloogjdojojehaa
open Go.RowKit
set_option linter.unusedVariables false

/-- blocks that are none of a builder's, and none of bytes, stay -/
def KeepW (w w' : World) : Prop := ∀ (T : Nat) (ty : TypeId) (CS : List Value), ty ≠ 5 → ty ≠ 62 → Blk w T ty CS → Blk w' T ty CS
theorem KeepW.refl (w : World) : KeepW w w := fun T ty CS _ _ h => h
theorem KeepW.trans {a b c : World} (h : KeepW a b) (k : KeepW b c) : KeepW a c := fun T ty CS h1 h2 h3 => k T ty CS h1 h2 (h T ty CS h1 h2 h3)
theorem KeepW.below {a b : World} (h : Below a.heap.size a b) : KeepW a b := fun T ty CS _ _ h3 => h3.below h h3.lt
theorem Blk.neW {w : World} {a b : Nat} {t u : TypeId} {x y : List Value} (h : Blk w a t x) (k : Blk w b u y) (ht : t ≠ u) : a ≠ b := by
  rintro rfl
  unfold Blk at h k
  rw [h] at k
  simp at k
  exact ht k.2
set_option maxRecDepth 100000 in
set_option maxHeartbeats 1000000 in
/-- a text is written behind what is there -/
theorem b_WriteString2 (w : World) (base b : Nat) (l : List Nat) (s : ByteArray) (h : Bld w base b l) (hl : l.length + s.size ≤ 1000000000) (hbase : base ≤ w.heap.size) :
    Calls Try.prog 49 #[.pointer (some ⟨b, 0, none⟩), .string s] w fun e w' => e = .returned (.tuple #[.int .i64 (s.size : Int), .nilIface]) ∧ Bld w' base b (l ++ sl s) ∧ Below base w w' ∧ KeepW w w' := by
  obtain ⟨i0, hi0, hz0, hz1, hz2⟩ := info_parts info_u8
  obtain ⟨hB, p, v, hp, hb, ho, hnil⟩ := h
  have HC := Lib.hid (b_check w b p v hp hb)
  have HO := Lib.hid ho
  have HBK := Lib.hid hb
  have HNIL := Lib.hid hnil
  have hll : (nn l).length = l.length := nn_length l
  have HL := Lib.hid hll
  clear hb ho hp hnil hll
  go_enter Try.func49, Try.ntmps49
  go_wp2_with fail
  (with_reducible refine HC.out.mono ?_)
  rintro e w1 ⟨rfl, hw1, hb1⟩
  have hk : OwnB w1 base 5 v (nn l) ∧ Below base w w1 := by
    rcases hw1 with rfl | rfl
    · exact ⟨HO.out, Below.refl _ _⟩
    · exact ⟨HO.out.setOther HBK.out (by decide) 0 _, (Below.refl _ _).setCell (p := ⟨b, 0, none⟩) hB _⟩
  have hown : w1.ownsRow base 5 1 v l.length (ints .u8 (nn l)) := by
    have := hk.1
    unfold OwnB at this
    rw [HL.out] at this
    exact this
  have c1 := hb1.cell 1
  have f1 := hb1.free 1
  simp only [List.getElem?_cons_zero, List.getElem?_cons_succ] at c1
  have HOWN := Lib.hid hown
  have HB1 := Lib.hid hb1
  have HK := Lib.hid hk.2
  have hne : ∀ i, v.ownBlock = some i → i ≠ b := fun i hi e => by
    subst e
    rcases hk.1.2 with ⟨hv, _⟩ | ⟨g, cap, cur, hv, hg, hh, r⟩
    · rw [hv] at hi; cases hi
    · rw [hv] at hi
      cases hi
      unfold Blk at hb1
      rw [hb1] at hh
      simp at hh
  have HLT := Lib.hid (hk.1.lt)
  have HNE := Lib.hid hne
  have hkw : KeepW w w1 := by
    rcases hw1 with rfl | rfl
    · exact fun T ty CS _ _ h => h
    · exact fun T ty CS _ h2 h => h.other (a := ⟨b, 0, none⟩) (HBK.out.neW h (fun e => h2 e.symm)) _
  have HKW := Lib.hid hkw
  have HU8 : Hid (∀ i, v.ownBlock = some i → ∃ vs, Blk w1 i 5 vs) := Lib.hid fun i hi => by
    rcases hk.1.2 with ⟨hv, _⟩ | ⟨g, cap, cur, hv, hg, hh, r⟩
    · rw [hv] at hi; cases hi
    · rw [hv] at hi
      cases hi
      exact ⟨cur.toList, by unfold Blk; rw [hh]⟩
  have H63 : Hid (l.length + s.size ≤ maxLen) := Lib.hid (by unfold maxLen; omega)
  have HBY : Hid (l.length + s.size ≤ 140737488355328) := Lib.hid (by omega)
  have HBS : Hid (base ≤ w1.heap.size) := Lib.hid (by have := HK.out.size; omega)
  clear hown hb1 hk hne hw1 hkw HC HO HBK
  go_wp2_with (refine Lib.wpList_append_own_string _ rfl _ _ 60 9 rfl base 5 i0 Try.underlying60 Try.underlying9 hi0 hz0 hz1 hz2 v l.length (ints .u8 (nn l)) rfl HOWN.out s rfl H63.out HBY.out HBS.out ?_; intro v2 w2 ho2 hg2 hn2; have hb2 := HB1.out.grownP hg2 (fun e => HNE.out b e rfl); have c2 := hb2.cell 1; have f2 := hb2.free 1; simp only [List.getElem?_cons_zero, List.getElem?_cons_succ] at c2; have HO2 := Lib.hid ho2; have HB2 := Lib.hid hb2; have HK2 := Lib.hid (HK.out.grown hg2 HBS.out (fun k e => (HLT.out k e).1)); have HKW2 : Hid (KeepW w1 w2) := Lib.hid (fun T ty CS h1 _ h => h.grownP hg2 (fun e => by obtain ⟨vs, hu⟩ := HU8.out T e; exact (hu.neW h (fun e => h1 e.symm)) rfl)); have HN2 := Lib.hid hn2; obtain ⟨p2, c2', rfl⟩ := own_slice ho2; clear ho2 hg2 hb2 hn2)
  go_ret2
  have q1 := HB2.out.set 1 (.slice p2 (l.length + s.size) c2')
  have q2 : OwnB w2 base 5 (.slice p2 (l.length + s.size) c2') (nn (l ++ sl s)) := by
    unfold OwnB
    rw [nn_length, List.length_append, sl_len, nn_app, ints_app, ← ints_str]
    exact HO2.out
  refine ⟨rfl, ⟨hB, _, _, .inr rfl, q1, q2.setOther HB2.out (by decide) 1 _, fun e => ?_⟩, HK2.out.setCell (p := ⟨b, 1, none⟩) hB _, fun T ty CS h1 h2 h => ((HKW2.out T ty CS h1 h2 (HKW.out T ty CS h1 h2 h)).other (a := ⟨b, 1, none⟩) (HB2.out.neW (HKW2.out T ty CS h1 h2 (HKW.out T ty CS h1 h2 h)) (fun e => h2 e.symm)) _)⟩
  have e1 := List.append_eq_nil_iff.1 e
  have e2 : s.size = 0 := by rw [← sl_len, e1.2]; rfl
  exact HN2.out.2 ⟨HNIL.out e1.1, e2⟩
set_option maxRecDepth 100000 in
set_option maxHeartbeats 1000000 in
/-- bytes of another block are written behind what is there -/
theorem b_WriteAt (w : World) (base b : Nat) (l x : List Nat) (T o cap : Nat) (t : TypeId) (CS : List Value) (h : Bld w base b l) (hT : Blk w T t CS) (hX : ∀ j u, (ints .u8 (nn x))[j]? = some u → CS[o + j]? = some u) (ht : t ≠ 62) (hx : 0 < x.length) (hl : l.length + x.length ≤ 1000000000) (hbase : base ≤ w.heap.size) :
    Calls Try.prog 48 #[.pointer (some ⟨b, 0, none⟩), .slice (some ⟨T, o, none⟩) x.length cap] w fun e w' => e = .returned (.tuple #[.int .i64 (x.length : Int), .nilIface]) ∧ Bld w' base b (l ++ x) ∧ Below base w w' ∧ KeepW w w' := by
  obtain ⟨i0, hi0, hz0, hz1, hz2⟩ := info_parts info_u8
  obtain ⟨hB, p, v, hp, hb, ho, hnil⟩ := h
  have hTb : T ≠ b := by
    rintro rfl
    unfold Blk at hT hb
    rw [hT] at hb
    simp at hb
    exact ht hb.2
  have HC := Lib.hid (b_check w b p v hp hb)
  have HO := Lib.hid ho
  have HBK := Lib.hid hb
  have HT := Lib.hid hT
  have HX := Lib.hid hX
  have HTB := Lib.hid hTb
  have hll : (nn l).length = l.length := nn_length l
  have HL := Lib.hid hll
  clear hb ho hp hnil hll hT hTb hX
  go_enter Try.func48, Try.ntmps48
  go_wp2_with fail
  (with_reducible refine HC.out.mono ?_)
  rintro e w1 ⟨rfl, hw1, hb1⟩
  have hk : OwnB w1 base 5 v (nn l) ∧ Below base w w1 ∧ (∀ j u, (ints .u8 (nn x))[j]? = some u → w1.cell? ⟨T, o + j, none⟩ = some u) := by
    rcases hw1 with rfl | rfl
    · exact ⟨HO.out, Below.refl _ _, fun j u hj => by rw [HT.out.cell]; exact HX.out j u hj⟩
    · exact ⟨HO.out.setOther HBK.out (by decide) 0 _, (Below.refl _ _).setCell (p := ⟨b, 0, none⟩) hB _, fun j u hj => by
        rw [(HT.out.other (a := ⟨b, 0, none⟩) (fun e => HTB.out e.symm) _).cell]; exact HX.out j u hj⟩
  have hown : w1.ownsRow base 5 1 v l.length (ints .u8 (nn l)) := by
    have := hk.1
    unfold OwnB at this
    rw [HL.out] at this
    exact this
  have c1 := hb1.cell 1
  have f1 := hb1.free 1
  simp only [List.getElem?_cons_zero, List.getElem?_cons_succ] at c1
  have HOWN := Lib.hid hown
  have HB1 := Lib.hid hb1
  have HK := Lib.hid hk.2.1
  have HRG := Lib.hid hk.2.2
  have hne : ∀ i, v.ownBlock = some i → i ≠ b := fun i hi e => by
    subst e
    rcases hk.1.2 with ⟨hv, _⟩ | ⟨g, cap, cur, hv, hg, hh, r⟩
    · rw [hv] at hi; cases hi
    · rw [hv] at hi
      cases hi
      unfold Blk at hb1
      rw [hb1] at hh
      simp at hh
  have HLT := Lib.hid (hk.1.lt)
  have HNE := Lib.hid hne
  have hkw : KeepW w w1 := by
    rcases hw1 with rfl | rfl
    · exact fun T ty CS _ _ h => h
    · exact fun T ty CS _ h2 h => h.other (a := ⟨b, 0, none⟩) (HBK.out.neW h (fun e => h2 e.symm)) _
  have HKW := Lib.hid hkw
  have HU8 : Hid (∀ i, v.ownBlock = some i → ∃ vs, Blk w1 i 5 vs) := Lib.hid fun i hi => by
    rcases hk.1.2 with ⟨hv, _⟩ | ⟨g, cap, cur, hv, hg, hh, r⟩
    · rw [hv] at hi; cases hi
    · rw [hv] at hi
      cases hi
      exact ⟨cur.toList, by unfold Blk; rw [hh]⟩
  have H63 : Hid (l.length + x.length ≤ maxLen) := Lib.hid (by unfold maxLen; omega)
  have HBY : Hid ((l.length + x.length) * 1 ≤ 140737488355328) := Lib.hid (by omega)
  have HBS : Hid (base ≤ w1.heap.size) := Lib.hid (by have := HK.out.size; omega)
  have HXL : Hid ((ints .u8 (nn x)).length = x.length * 1) := Lib.hid (by rw [ints_length, nn_length]; omega)
  have HRA : Hid (∀ j u, (ints .u8 (nn x))[j]? = some u → w1.cell? ((⟨T, o, none⟩ : Addr).add j) = some u) := Lib.hid fun j u hj => by rw [Addr.add_mid]; exact HRG.out j u hj
  have HOC : Hid (∀ u ∈ ints .u8 (nn x), u.oneCell' = true) := Lib.hid fun u hu => by
    simp only [ints, List.mem_map] at hu
    obtain ⟨n, _, rfl⟩ := hu
    rfl
  clear hown hb1 hk hne hw1 hkw HC HO HBK
  go_wp2_with (refine wpList_append_own _ rfl _ _ 60 rfl base 5 i0 (.int .u8 0) 1 1 Try.underlying60 hi0 hz0 hz1 hz2 rfl (by decide) v l.length (ints .u8 (nn l)) rfl HOWN.out ⟨T, o, none⟩ x.length cap (ints .u8 (nn x)) rfl HXL.out HRA.out HOC.out H63.out HBY.out HBS.out ?_; intro v2 w2 ho2 hg2 hn2; have hb2 := HB1.out.grownP hg2 (fun e => HNE.out b e rfl); have c2 := hb2.cell 1; have f2 := hb2.free 1; simp only [List.getElem?_cons_zero, List.getElem?_cons_succ] at c2; have HO2 := Lib.hid ho2; have HB2 := Lib.hid hb2; have HK2 := Lib.hid (HK.out.grown hg2 HBS.out (fun k e => (HLT.out k e).1)); have HKW2 : Hid (KeepW w1 w2) := Lib.hid (fun T ty CS h1 _ h => h.grownP hg2 (fun e => by obtain ⟨vs, hu⟩ := HU8.out T e; exact (hu.neW h (fun e => h1 e.symm)) rfl)); obtain ⟨p2, c2', rfl⟩ := own_slice ho2; clear ho2 hg2 hb2 hn2)
  go_ret2
  have q1 := HB2.out.set 1 (.slice p2 (l.length + x.length) c2')
  have q2 : OwnB w2 base 5 (.slice p2 (l.length + x.length) c2') (nn (l ++ x)) := by
    unfold OwnB
    rw [nn_length, List.length_append, nn_app, ints_app]
    exact HO2.out
  refine ⟨rfl, ⟨hB, _, _, .inr rfl, q1, q2.setOther HB2.out (by decide) 1 _, fun e => ?_⟩, HK2.out.setCell (p := ⟨b, 1, none⟩) hB _, fun T ty CS h1 h2 h => ((HKW2.out T ty CS h1 h2 (HKW.out T ty CS h1 h2 h)).other (a := ⟨b, 1, none⟩) (HB2.out.neW (HKW2.out T ty CS h1 h2 (HKW.out T ty CS h1 h2 h)) (fun e => h2 e.symm)) _)⟩
  have e1 := List.append_eq_nil_iff.1 e
  rw [e1.2] at hx
  simp at hx
end Go.Proofs.Ytloogjdojojehaa
namespace Go.Proofs.Ytloogjdojojehaa
open Go.RowKit
set_option linter.unusedVariables false

theorem flat_take {α : Type} (f : α → List Nat) (l : List α) (d : α) {j : Nat} (hj : j < l.length) : (l.take (j + 1)).flatMap f = (l.take j).flatMap f ++ f (l.getD j d) := by
  rw [List.take_succ_eq_append_getElem hj, List.flatMap_append, List.getD_eq_getElem?_getD, List.getElem?_eq_getElem hj]
  simp
theorem flat_big_len (k : Nat) (l : List Nat) : (l.flatMap fun n => bigL n k).length = l.length * k := by
  induction l with
  | nil => simp
  | cons x l ih => rw [List.flatMap_cons, List.length_append, ih, big_len, List.length_cons, Nat.succ_mul]; omega
theorem getD_lt {l : List Nat} {m : Nat} (h : ∀ n ∈ l, n < m) {j : Nat} (hj : j < l.length) : l.getD j 0 < m := by
  rw [List.getD_eq_getElem?_getD, List.getElem?_eq_getElem hj]
  exact h _ (List.getElem_mem hj)
set_option maxRecDepth 100000 in
set_option maxHeartbeats 2000000 in
theorem w_putI (l pre : List Nat) (p : Option Addr) (c k base b : Nat) (w : World) (hB : Bld w base b pre) (hbase : base ≤ w.heap.size) (h1 : 1 ≤ k) (h4 : k ≤ 4) (hl : l.length ≤ 1000) (hp : pre.length ≤ 1000000) (hn : ∀ n ∈ l, n < 4294967296)
    (hS : ∀ wx, Below base w wx → KeepW w wx → Sl wx 1 (.slice p l.length c) (rowsU .i64 l)) :
    Calls Try.prog 39 #[.pointer (some ⟨b, 0, none⟩), .int .i64 (k : Int), .slice p l.length c] w fun e w' => e = .returned (.tuple #[]) ∧ Bld w' base b (pre ++ l.flatMap fun n => bigL n k) ∧ Below base w w' ∧ KeepW w w' := by
  have HS := Lib.hid hS
  have HB := Lib.hid hB
  have HN := Lib.hid hn
  have HP := Lib.hid hp
  have HBS := Lib.hid hbase
  have HK1 := Lib.hid h1
  have HK4 := Lib.hid h4
  have g4 : (k : Int) ≤ 4 := by omega
  clear hS hB hn hp hbase h1 h4
  go_enter Try.func39, Try.ntmps39
  go_wp2
  go_loopw [10] (fun i wr => ∃ j : Nat, j ≤ l.length ∧ i = .int .i64 (j : Int) ∧ Bld wr base b (pre ++ (l.take j).flatMap fun n => bigL n k) ∧ Below base w wr ∧ KeepW w wr) (fun i _ => l.length - (intOf i).toNat)
  case atStart => exact ⟨0, Nat.zero_le _, rfl, by simpa using HB.out, Below.refl _ _, KeepW.refl w⟩
  case round =>
    obtain ⟨j, hj, rfl, hb, gb, gk⟩ := hrel
    have HBJ := Lib.hid hb
    have GB := Lib.hid gb
    have GK := Lib.hid gk
    clear hb gb gk
    by_cases hlt : j < l.length
    · obtain ⟨a1, rfl, c1⟩ := SlU.cell (HS.out _ GB.out GK.out) hlt
      have d1 : (j : Int) < (l.length : Int) := by omega
      have hx := getD_lt HN.out hlt
      have hft := flat_take (fun n => bigL n k) l 0 hlt
      have HFT := Lib.hid hft
      have hz : ((l.take j).flatMap fun n => bigL n k).length ≤ 4000 := by
        rw [flat_big_len, List.length_take]
        calc min j l.length * k ≤ 1000 * 4 := Nat.mul_le_mul (by omega) HK4.out
          _ = 4000 := rfl
      have HZ := Lib.hid hz
      generalize l.getD j 0 = x at *
      have i1 : (x : Int) < 4294967296 := by omega
      have u1 : IntKind.u64.wrap (x : Int) = (x : Int) := wraps_u64 _ (by omega) (by omega)
      have QA := Lib.hid (fun wx => v_Big x k wx HK1.out (by have := HK4.out; omega) (by omega))
      have hz1 : (tx (bigL x k)).size = k := by rw [tx_size, big_len]
      have hs1 : sl (tx (bigL x k)) = bigL x k := sl_tx (big_bys x k)
      have HS1 := Lib.hid hs1
      have HZ1 := Lib.hid hz1
      have HLT := Lib.hid hlt
      clear hx hft hz hz1 hs1 hlt hj
      generalize tx (bigL x k) = S1 at *
      go_wp2_with fail
      refine (QA.out _).mono ?_
      rintro e w3 ⟨rfl, hb3⟩
      have B3 := Lib.hid (HBJ.out.keep hb3)
      have G3 := Lib.hid (GB.out.trans (hb3.mono (Nat.le_trans HBS.out GB.out.size)))
      have K3 := Lib.hid (GK.out.trans (KeepW.below hb3))
      clear hb3
      go_wp2_with fail
      (with_reducible refine (b_WriteString2 w3 base b _ S1 B3.out (by rw [List.length_append, HZ1.out]; have := HP.out; have := HZ.out; have := HK4.out; omega) (Nat.le_trans HBS.out G3.out.size)).mono ?_)
      rintro e w4 ⟨rfl, bl4, hb4, hk4⟩
      have B4 : Hid (Bld w4 base b (pre ++ (l.take (j + 1)).flatMap fun n => bigL n k)) := Lib.hid (by rw [HFT.out, ← HS1.out, ← List.append_assoc]; exact bl4)
      have G4 := Lib.hid (G3.out.trans hb4)
      have K4 := Lib.hid (K3.out.trans hk4)
      clear bl4 hb4 hk4
      go_wp2
      go_roundw
      case rel => exact ⟨j + 1, by have := HLT.out; omega, by go_num, B4.out, G4.out, K4.out⟩
      case measure => (have := HLT.out; simp [intOf]; omega)
    · obtain rfl : j = l.length := by omega
      have B4 : Hid (Bld wr base b (pre ++ l.flatMap fun n => bigL n k)) := Lib.hid (by have := HBJ.out; rwa [List.take_length] at this)
      clear hlt hj
      go_wp2
      go_end0
      exact ⟨rfl, B4.out, GB.out, GK.out⟩
set_option maxRecDepth 100000 in
set_option maxHeartbeats 2000000 in
theorem w_putU (l pre : List Nat) (p : Option Addr) (c k base b : Nat) (w : World) (hB : Bld w base b pre) (hbase : base ≤ w.heap.size) (h1 : 1 ≤ k) (h4 : k ≤ 4) (hl : l.length ≤ 1000) (hp : pre.length ≤ 1000000) (hn : ∀ n ∈ l, n < 4294967296)
    (hS : ∀ wx, Below base w wx → KeepW w wx → Sl wx 1 (.slice p l.length c) (rowsU .u32 l)) :
    Calls Try.prog 40 #[.pointer (some ⟨b, 0, none⟩), .int .i64 (k : Int), .slice p l.length c] w fun e w' => e = .returned (.tuple #[]) ∧ Bld w' base b (pre ++ l.flatMap fun n => bigL n k) ∧ Below base w w' ∧ KeepW w w' := by
  have HS := Lib.hid hS
  have HB := Lib.hid hB
  have HN := Lib.hid hn
  have HP := Lib.hid hp
  have HBS := Lib.hid hbase
  have HK1 := Lib.hid h1
  have HK4 := Lib.hid h4
  have g4 : (k : Int) ≤ 4 := by omega
  clear hS hB hn hp hbase h1 h4
  go_enter Try.func40, Try.ntmps40
  go_wp2
  go_loopw [10] (fun i wr => ∃ j : Nat, j ≤ l.length ∧ i = .int .i64 (j : Int) ∧ Bld wr base b (pre ++ (l.take j).flatMap fun n => bigL n k) ∧ Below base w wr ∧ KeepW w wr) (fun i _ => l.length - (intOf i).toNat)
  case atStart => exact ⟨0, Nat.zero_le _, rfl, by simpa using HB.out, Below.refl _ _, KeepW.refl w⟩
  case round =>
    obtain ⟨j, hj, rfl, hb, gb, gk⟩ := hrel
    have HBJ := Lib.hid hb
    have GB := Lib.hid gb
    have GK := Lib.hid gk
    clear hb gb gk
    by_cases hlt : j < l.length
    · obtain ⟨a1, rfl, c1⟩ := SlU.cell (HS.out _ GB.out GK.out) hlt
      have d1 : (j : Int) < (l.length : Int) := by omega
      have hx := getD_lt HN.out hlt
      have hft := flat_take (fun n => bigL n k) l 0 hlt
      have HFT := Lib.hid hft
      have hz : ((l.take j).flatMap fun n => bigL n k).length ≤ 4000 := by
        rw [flat_big_len, List.length_take]
        calc min j l.length * k ≤ 1000 * 4 := Nat.mul_le_mul (by omega) HK4.out
          _ = 4000 := rfl
      have HZ := Lib.hid hz
      generalize l.getD j 0 = x at *
      have i1 : (x : Int) < 4294967296 := by omega
      have u1 : IntKind.u64.wrap (x : Int) = (x : Int) := wraps_u64 _ (by omega) (by omega)
      have QA := Lib.hid (fun wx => v_Big x k wx HK1.out (by have := HK4.out; omega) (by omega))
      have hz1 : (tx (bigL x k)).size = k := by rw [tx_size, big_len]
      have hs1 : sl (tx (bigL x k)) = bigL x k := sl_tx (big_bys x k)
      have HS1 := Lib.hid hs1
      have HZ1 := Lib.hid hz1
      have HLT := Lib.hid hlt
      clear hx hft hz hz1 hs1 hlt hj
      generalize tx (bigL x k) = S1 at *
      go_wp2_with fail
      refine (QA.out _).mono ?_
      rintro e w3 ⟨rfl, hb3⟩
      have B3 := Lib.hid (HBJ.out.keep hb3)
      have G3 := Lib.hid (GB.out.trans (hb3.mono (Nat.le_trans HBS.out GB.out.size)))
      have K3 := Lib.hid (GK.out.trans (KeepW.below hb3))
      clear hb3
      go_wp2_with fail
      (with_reducible refine (b_WriteString2 w3 base b _ S1 B3.out (by rw [List.length_append, HZ1.out]; have := HP.out; have := HZ.out; have := HK4.out; omega) (Nat.le_trans HBS.out G3.out.size)).mono ?_)
      rintro e w4 ⟨rfl, bl4, hb4, hk4⟩
      have B4 : Hid (Bld w4 base b (pre ++ (l.take (j + 1)).flatMap fun n => bigL n k)) := Lib.hid (by rw [HFT.out, ← HS1.out, ← List.append_assoc]; exact bl4)
      have G4 := Lib.hid (G3.out.trans hb4)
      have K4 := Lib.hid (K3.out.trans hk4)
      clear bl4 hb4 hk4
      go_wp2
      go_roundw
      case rel => exact ⟨j + 1, by have := HLT.out; omega, by go_num, B4.out, G4.out, K4.out⟩
      case measure => (have := HLT.out; simp [intOf]; omega)
    · obtain rfl : j = l.length := by omega
      have B4 : Hid (Bld wr base b (pre ++ l.flatMap fun n => bigL n k)) := Lib.hid (by have := HBJ.out; rwa [List.take_length] at this)
      clear hlt hj
      go_wp2
      go_end0
      exact ⟨rfl, B4.out, GB.out, GK.out⟩
set_option maxRecDepth 100000 in
set_option maxHeartbeats 2000000 in
theorem w_putE (l pre : List Nat) (p : Option Addr) (c k base b : Nat) (w : World) (hB : Bld w base b pre) (hbase : base ≤ w.heap.size) (h1 : 1 ≤ k) (h4 : k ≤ 4) (hl : l.length ≤ 1000) (hp : pre.length ≤ 1000000) (hn : ∀ n ∈ l, n < 4294967296)
    (hS : ∀ wx, Below base w wx → KeepW w wx → Sl wx 1 (.slice p l.length c) (rowsU .i64 l)) :
    Calls Try.prog 66 #[.pointer (some ⟨b, 0, none⟩), .int .i64 (k : Int), .slice p l.length c] w fun e w' => e = .returned (.tuple #[]) ∧ Bld w' base b (pre ++ l.flatMap fun n => bigL n k) ∧ Below base w w' ∧ KeepW w w' := by
  have HS := Lib.hid hS
  have HB := Lib.hid hB
  have HN := Lib.hid hn
  have HP := Lib.hid hp
  have HBS := Lib.hid hbase
  have HK1 := Lib.hid h1
  have HK4 := Lib.hid h4
  have g4 : (k : Int) ≤ 4 := by omega
  clear hS hB hn hp hbase h1 h4
  go_enter Try.func66, Try.ntmps66
  go_wp2
  go_loopw [10] (fun i wr => ∃ j : Nat, j ≤ l.length ∧ i = .int .i64 (j : Int) ∧ Bld wr base b (pre ++ (l.take j).flatMap fun n => bigL n k) ∧ Below base w wr ∧ KeepW w wr) (fun i _ => l.length - (intOf i).toNat)
  case atStart => exact ⟨0, Nat.zero_le _, rfl, by simpa using HB.out, Below.refl _ _, KeepW.refl w⟩
  case round =>
    obtain ⟨j, hj, rfl, hb, gb, gk⟩ := hrel
    have HBJ := Lib.hid hb
    have GB := Lib.hid gb
    have GK := Lib.hid gk
    clear hb gb gk
    by_cases hlt : j < l.length
    · obtain ⟨a1, rfl, c1⟩ := SlU.cell (HS.out _ GB.out GK.out) hlt
      have d1 : (j : Int) < (l.length : Int) := by omega
      have hx := getD_lt HN.out hlt
      have hft := flat_take (fun n => bigL n k) l 0 hlt
      have HFT := Lib.hid hft
      have hz : ((l.take j).flatMap fun n => bigL n k).length ≤ 4000 := by
        rw [flat_big_len, List.length_take]
        calc min j l.length * k ≤ 1000 * 4 := Nat.mul_le_mul (by omega) HK4.out
          _ = 4000 := rfl
      have HZ := Lib.hid hz
      generalize l.getD j 0 = x at *
      have i1 : (x : Int) < 4294967296 := by omega
      have u1 : IntKind.u64.wrap (x : Int) = (x : Int) := wraps_u64 _ (by omega) (by omega)
      have QA := Lib.hid (fun wx => v_Big x k wx HK1.out (by have := HK4.out; omega) (by omega))
      have hz1 : (tx (bigL x k)).size = k := by rw [tx_size, big_len]
      have hs1 : sl (tx (bigL x k)) = bigL x k := sl_tx (big_bys x k)
      have HS1 := Lib.hid hs1
      have HZ1 := Lib.hid hz1
      have HLT := Lib.hid hlt
      clear hx hft hz hz1 hs1 hlt hj
      generalize tx (bigL x k) = S1 at *
      go_wp2_with fail
      refine (QA.out _).mono ?_
      rintro e w3 ⟨rfl, hb3⟩
      have B3 := Lib.hid (HBJ.out.keep hb3)
      have G3 := Lib.hid (GB.out.trans (hb3.mono (Nat.le_trans HBS.out GB.out.size)))
      have K3 := Lib.hid (GK.out.trans (KeepW.below hb3))
      clear hb3
      go_wp2_with fail
      (with_reducible refine (b_WriteString2 w3 base b _ S1 B3.out (by rw [List.length_append, HZ1.out]; have := HP.out; have := HZ.out; have := HK4.out; omega) (Nat.le_trans HBS.out G3.out.size)).mono ?_)
      rintro e w4 ⟨rfl, bl4, hb4, hk4⟩
      have B4 : Hid (Bld w4 base b (pre ++ (l.take (j + 1)).flatMap fun n => bigL n k)) := Lib.hid (by rw [HFT.out, ← HS1.out, ← List.append_assoc]; exact bl4)
      have G4 := Lib.hid (G3.out.trans hb4)
      have K4 := Lib.hid (K3.out.trans hk4)
      clear bl4 hb4 hk4
      go_wp2
      go_roundw
      case rel => exact ⟨j + 1, by have := HLT.out; omega, by go_num, B4.out, G4.out, K4.out⟩
      case measure => (have := HLT.out; simp [intOf]; omega)
    · obtain rfl : j = l.length := by omega
      have B4 : Hid (Bld wr base b (pre ++ l.flatMap fun n => bigL n k)) := Lib.hid (by have := HBJ.out; rwa [List.take_length] at this)
      clear hlt hj
      go_wp2
      go_end0
      exact ⟨rfl, B4.out, GB.out, GK.out⟩
set_option maxRecDepth 100000 in
set_option maxHeartbeats 2000000 in
theorem w_putVer (a : RawV) (v : Value) (pre : List Nat) (base b : Nat) (w : World) (hB : Bld w base b pre) (hbase : base ≤ w.heap.size) (hp : pre.length ≤ 1000000) (hV : VV w v a) (hk : VerS a) (hm : mayR a = true) :
    Calls Try.prog 41 #[.pointer (some ⟨b, 0, none⟩), v] w fun e w' => e = .returned (.tuple #[]) ∧ Bld w' base b (pre ++ verE a.ver) ∧ Below base w w' ∧ KeepW w w' := by
  obtain ⟨vb, vn, vz, rfl, ⟨pb, cb, rfl⟩, ⟨pn, cn, rfl⟩, ⟨pz, cz, rfl⟩, sb, sn, sz⟩ := hV
  have hV : VV w (.agg (cellsV a.id (.slice pb a.bl.length cb) (.slice pn a.ns.length cn) (.slice pz a.zs.length cz)).toArray) a := ⟨_, _, _, rfl, ⟨_, _, rfl⟩, ⟨_, _, rfl⟩, ⟨_, _, rfl⟩, sb, sn, sz⟩
  obtain ⟨C, hC⟩ : ∃ C, cellsV a.id (.slice pb a.bl.length cb) (.slice pn a.ns.length cn) (.slice pz a.zs.length cz) = C := ⟨_, rfl⟩
  have hCl : C.length = 4 := by rw [← hC]; rfl
  rw [hC] at hV ⊢
  have k0 := Blk.new' w 30 (c := C.toArray) C rfl
  have kb := (Below.refl w.heap.size w).alloc (Nat.le_refl _) (.cells C.toArray 30)
  have hvo := ver_okR hk.1 hm
  have hen : encT a = (tx (verE a.ver), 0) := by
    unfold encT
    rw [if_pos (show mayH a.bl.length a.ns a.zs = true from hm)]
  have HE := Lib.hid (h_Encode a (.agg C.toArray) (tx (verE a.ver)) 0 (w.alloc (.cells C.toArray 30)) hen (hV.below kb) hk.1 hk.2.1 hk.2.2.1 hk.2.2.2)
  have hs1 : sl (tx (verE a.ver)) = verE a.ver := sl_tx (ver_codes.bys _ hvo.1)
  have hz1 : (tx (verE a.ver)).size ≤ 1000 := by rw [tx_size]; exact (ver_small hvo.1).1
  have K0 := Lib.hid k0
  have KB := Lib.hid kb
  have HB := Lib.hid hB
  have HBS := Lib.hid hbase
  have HP := Lib.hid hp
  have HCL := Lib.hid hCl
  have HS1 := Lib.hid hs1
  have HZ1 := Lib.hid hz1
  clear k0 kb hB hbase hp hs1 hz1 hvo hen hV hk hm sb sn sz hC hCl
  generalize tx (verE a.ver) = S1 at *
  go_enter Try.func41, Try.ntmps41
  go_wp2_with (refine wpList_load_blkW rfl 30 _ rfl w.heap.size rfl K0.out Try.underlying30 rfl (by rw [size_ver, HCL.out]) ?_)
  refine HE.out.mono ?_
  rintro e w3 ⟨rfl, hb3⟩
  have b3 := KB.out.trans (hb3.mono KB.out.size)
  have B3 := Lib.hid (HB.out.keep b3)
  have G3 := Lib.hid (b3.mono HBS.out)
  have K3 := Lib.hid (KeepW.below b3)
  clear hb3 b3
  go_wp2_with fail
  (with_reducible refine (b_WriteString2 w3 base b _ S1 B3.out (by have := HP.out; have := HZ1.out; omega) (Nat.le_trans HBS.out G3.out.size)).mono ?_)
  rintro e w4 ⟨rfl, bl4, hb4, hk4⟩
  have B4 : Hid (Bld w4 base b (pre ++ verE a.ver)) := Lib.hid (by rw [← HS1.out]; exact bl4)
  have G4 := Lib.hid (G3.out.trans hb4)
  have K4 := Lib.hid (K3.out.trans hk4)
  clear bl4 hb4 hk4
  go_wp2
  go_end0
  exact ⟨rfl, B4.out, G4.out, K4.out⟩
end Go.Proofs.Ytloogjdojojehaa
namespace Go.Proofs.Ytloogjdojojehaa
open Go.RowKit
set_option linter.unusedVariables false

theorem sl_var (ik : IntKind) (l : List Nat) {W wx : World} {G : Nat} {T : TypeId} {cs : List Value} (hk : Blk W G T cs) (h1 : T ≠ 5) (h2 : T ≠ 62) (hw : KeepW W wx) (he : cs = (rowsU ik l).flatten := by rfl) : Sl wx 1 (.slice (some ⟨G, 0, none⟩) l.length l.length) (rowsU ik l) := by
  have h := hw G T cs h1 h2 hk
  rw [he] at h
  have s := sl_blkS (k := 1) (cap := l.length) (rest := []) (rows := rowsU ik l) (fun r hr => by
    unfold rowsU at hr
    obtain ⟨x, _, rfl⟩ := List.mem_map.1 hr
    rfl) (by rw [List.append_nil]; exact h)
  rwa [rowsU_len] at s
theorem reqE_len {r : ReqM} (h : ReqOkM r) : (reqE r).length ≤ 1010 := by
  unfold reqE reqVE
  simp only [List.length_append, big_len]
  split
  · rename_i hk
    have hv := h.2.2.2.2.2.2
    unfold reqVOk at hv
    rw [if_pos hk] at hv
    have := (ver_small hv).1
    omega
  · simp
theorem raw_verE {v : VerH} : (rawOf v).ver = v := rawOf_ver v
theorem req_ver {w : World} {R : List Value} {r : ReqU RawV} (h : ReqTold w (.agg R.toArray) r) : VV w (.agg (R.drop 4).toArray) r.ver := by
  obtain ⟨q, e, hv⟩ := h
  have := congrArg (fun v => match v with | Value.agg c => c.toList | _ => []) e
  simp at this
  rw [this]
  exact hv
set_option maxRecDepth 100000 in
set_option maxHeartbeats 4000000 in
theorem w_putReq (r : ReqM) (v : Value) (pre : List Nat) (base b : Nat) (w : World) (hB : Bld w base b pre) (hbase : base ≤ w.heap.size) (hp : pre.length ≤ 900000) (hv : ReqTold w v (reqU r)) (hvb : ∀ wx, Below base w wx → ReqTold wx v (reqU r)) (hr : ReqOkM r) :
    Calls Try.prog 19 #[.pointer (some ⟨b, 0, none⟩), v] w fun e w' => e = .returned (.tuple #[]) ∧ Bld w' base b (pre ++ reqE r) ∧ Below base w w' ∧ KeepW w w' := by
  obtain ⟨R, rfl, hRl, h0, h1, h2, h3, hV⟩ := req_cells hv
  have k0 := Blk.new' w 40 (c := R.toArray) R rfl
  have kb := (Below.refl w.heap.size w).alloc (Nat.le_refl _) (.cells R.toArray 40)
  obtain ⟨M, hM⟩ : ∃ M, w.heap.size = M := ⟨_, rfl⟩
  obtain ⟨c, hc⟩ : ∃ c : Nat, r.client = c := ⟨_, rfl⟩
  obtain ⟨q, hq⟩ : ∃ q : Nat, r.seq = q := ⟨_, rfl⟩
  obtain ⟨k, hk⟩ : ∃ k : Nat, r.kind = k := ⟨_, rfl⟩
  obtain ⟨i, hi⟩ : ∃ i : Nat, r.id = i := ⟨_, rfl⟩
  have hh0 : R[0]? = some (.int .i64 (c : Int)) := by rw [← hc]; exact h0
  have hh1 : R[1]? = some (.int .u32 (q : Int)) := by rw [← hq]; exact h1
  have hh2 : R[2]? = some (.int .i64 (k : Int)) := by rw [← hk]; exact h2
  have hh3 : R[3]? = some (.int .u32 (i : Int)) := by rw [← hi]; exact h3
  have HK : Hid (∀ wx, KeepW (w.alloc (.cells R.toArray 40)) wx → Blk wx w.heap.size 40 R ∧ wx.cell? ⟨w.heap.size, 0, none⟩ = some (.int .i64 (c : Int)) ∧ wx.cell? ⟨w.heap.size, 1, none⟩ = some (.int .u32 (q : Int)) ∧ wx.cell? ⟨w.heap.size, 2, none⟩ = some (.int .i64 (k : Int)) ∧ wx.cell? ⟨w.heap.size, 3, none⟩ = some (.int .u32 (i : Int))) := Lib.hid fun wx hw => by
    have h := hw _ _ _ (by decide) (by decide) k0
    exact ⟨h, h.cellOf hh0, h.cellOf hh1, h.cellOf hh2, h.cellOf hh3⟩
  have HR := Lib.hid hr
  have HNc : Hid (c < 4294967296 ∧ q < 4294967296 ∧ k < 4294967296 ∧ i < 4294967296) := Lib.hid (by obtain ⟨a1, a2, a3, a4, a5, a6⟩ := hr; omega)
  have HCC : Hid (r.client = c ∧ r.seq = q ∧ r.kind = k ∧ r.id = i) := Lib.hid ⟨hc, hq, hk, hi⟩
  have BL0 := Lib.hid (hB.keep kb)
  have HBS := Lib.hid hbase
  have GB0 := Lib.hid (kb.mono hbase)
  have KW0 : Hid (KeepW w (w.alloc (.cells R.toArray 40))) := Lib.hid (KeepW.below kb)
  have LN0 : Hid (pre.length ≤ 1000000) := Lib.hid (by omega)
  have HP := Lib.hid hp
  have HD4 : Hid ((R.drop 4).length = 4) := Lib.hid (by rw [List.length_drop, hRl])
  have HVB := Lib.hid (fun wx (hb : Below base w wx) => req_ver (hvb wx hb))
  have HZ : Hid ((w.alloc (.cells R.toArray 40)).heap.size = w.heap.size + 1) := Lib.hid (by simp)
  obtain ⟨-, c0, -, -, -⟩ := HK.out _ (KeepW.refl _)
  clear hB hbase hp k0 kb hc hq hk hi hh0 hh1 hh2 hh3 h0 h1 h2 h3 hv hvb hr hV hM

  have KX0 : Hid (KeepW (w.alloc (.cells R.toArray 40)) (w.alloc (.cells R.toArray 40))) := Lib.hid (KeepW.refl _)
  go_enter Try.func19, Try.ntmps19
  have HC0 : Hid (Calls Try.prog 39 #[.pointer (some ⟨b, 0, none⟩), .int .i64 1, .slice (some ⟨w.heap.size + 1, 0, none⟩) 1 1] ((w.alloc (.cells R.toArray 40)).alloc (.cells #[.int .i64 ((c : Nat) : Int)] 3)) fun e w' => e = .returned (.tuple #[]) ∧ Bld w' base b ((pre) ++ ([c] : List Nat).flatMap fun n => bigL n 1) ∧ Below base ((w.alloc (.cells R.toArray 40)).alloc (.cells #[.int .i64 ((c : Nat) : Int)] 3)) w' ∧ KeepW ((w.alloc (.cells R.toArray 40)).alloc (.cells #[.int .i64 ((c : Nat) : Int)] 3)) w') := Lib.hid (by
    have kb := (Below.refl (w.alloc (.cells R.toArray 40)).heap.size (w.alloc (.cells R.toArray 40))).alloc (Nat.le_refl _) (.cells #[.int .i64 ((c : Nat) : Int)] 3)
    exact w_putI [c] (pre) (some ⟨w.heap.size + 1, 0, none⟩) 1 1 base b ((w.alloc (.cells R.toArray 40)).alloc (.cells #[.int .i64 ((c : Nat) : Int)] 3)) (BL0.out.keep kb) (Nat.le_trans HBS.out (Nat.le_trans GB0.out.size kb.size)) (by decide) (by decide) (by simp) LN0.out (fun n hn => by rw [List.mem_singleton.1 hn]; exact HNc.out.1) (fun wx _ hk => sl_var .i64 [c] (Blk.newAt (w.alloc (.cells R.toArray 40)) _ (by first | exact HZ.out | rfl) 3 _ rfl) (by decide) (by decide) hk))
  have KA0 : Hid (Below base w ((w.alloc (.cells R.toArray 40)).alloc (.cells #[.int .i64 ((c : Nat) : Int)] 3)) ∧ KeepW w ((w.alloc (.cells R.toArray 40)).alloc (.cells #[.int .i64 ((c : Nat) : Int)] 3))) := Lib.hid (by
    have kb := (Below.refl (w.alloc (.cells R.toArray 40)).heap.size (w.alloc (.cells R.toArray 40))).alloc (Nat.le_refl _) (.cells #[.int .i64 ((c : Nat) : Int)] 3)
    exact ⟨GB0.out.trans (kb.mono (Nat.le_trans HBS.out GB0.out.size)), KW0.out.trans (KeepW.below kb)⟩)
  go_wp2_with (first | (go_skip) | fail)
  refine HC0.out.mono ?_
  rintro e w1 ⟨rfl, bl, gb, kw⟩
  have BL1 := Lib.hid bl
  have GB1 := Lib.hid (KA0.out.1.trans gb)
  have KW1 := Lib.hid (KA0.out.2.trans kw)
  have KX1 : Hid (KeepW (w.alloc (.cells R.toArray 40)) w1) := Lib.hid (KX0.out.trans (by
    have kb := (Below.refl (w.alloc (.cells R.toArray 40)).heap.size (w.alloc (.cells R.toArray 40))).alloc (Nat.le_refl _) (.cells #[.int .i64 ((c : Nat) : Int)] 3)
    exact (KeepW.below kb).trans kw))
  have LN1 : Hid (((pre) ++ ([c] : List Nat).flatMap fun n => bigL n 1).length ≤ 1000000) := Lib.hid (by have := HP.out; simp only [List.length_append, List.flatMap_cons, List.flatMap_nil, big_len, List.length_nil]; omega)
  obtain ⟨KB1, c0, c1, c2, c3⟩ := HK.out _ KX1.out
  have KB1' := Lib.hid KB1
  clear bl gb kw HC0 KA0 KB1
  clear c0 c2 c3
  have HC1 : Hid (Calls Try.prog 40 #[.pointer (some ⟨b, 0, none⟩), .int .i64 4, .slice (some ⟨w1.heap.size, 0, none⟩) 1 1] (w1.alloc (.cells #[.int .u32 ((q : Nat) : Int)] 22)) fun e w' => e = .returned (.tuple #[]) ∧ Bld w' base b (((pre) ++ ([c] : List Nat).flatMap fun n => bigL n 1) ++ ([q] : List Nat).flatMap fun n => bigL n 4) ∧ Below base (w1.alloc (.cells #[.int .u32 ((q : Nat) : Int)] 22)) w' ∧ KeepW (w1.alloc (.cells #[.int .u32 ((q : Nat) : Int)] 22)) w') := Lib.hid (by
    have kb := (Below.refl w1.heap.size w1).alloc (Nat.le_refl _) (.cells #[.int .u32 ((q : Nat) : Int)] 22)
    exact w_putU [q] ((pre) ++ ([c] : List Nat).flatMap fun n => bigL n 1) (some ⟨w1.heap.size, 0, none⟩) 1 4 base b (w1.alloc (.cells #[.int .u32 ((q : Nat) : Int)] 22)) (BL1.out.keep kb) (Nat.le_trans HBS.out (Nat.le_trans GB1.out.size kb.size)) (by decide) (by decide) (by simp) LN1.out (fun n hn => by rw [List.mem_singleton.1 hn]; exact HNc.out.2.1) (fun wx _ hk => sl_var .u32 [q] (Blk.newAt w1 _ (by first | exact HZ.out | rfl) 22 _ rfl) (by decide) (by decide) hk))
  have KA1 : Hid (Below base w (w1.alloc (.cells #[.int .u32 ((q : Nat) : Int)] 22)) ∧ KeepW w (w1.alloc (.cells #[.int .u32 ((q : Nat) : Int)] 22))) := Lib.hid (by
    have kb := (Below.refl w1.heap.size w1).alloc (Nat.le_refl _) (.cells #[.int .u32 ((q : Nat) : Int)] 22)
    exact ⟨GB1.out.trans (kb.mono (Nat.le_trans HBS.out GB1.out.size)), KW1.out.trans (KeepW.below kb)⟩)
  go_wp2_with (first | (go_skip) | fail)
  refine HC1.out.mono ?_
  rintro e w2 ⟨rfl, bl, gb, kw⟩
  have BL2 := Lib.hid bl
  have GB2 := Lib.hid (KA1.out.1.trans gb)
  have KW2 := Lib.hid (KA1.out.2.trans kw)
  have KX2 : Hid (KeepW (w.alloc (.cells R.toArray 40)) w2) := Lib.hid (KX1.out.trans (by
    have kb := (Below.refl w1.heap.size w1).alloc (Nat.le_refl _) (.cells #[.int .u32 ((q : Nat) : Int)] 22)
    exact (KeepW.below kb).trans kw))
  have LN2 : Hid ((((pre) ++ ([c] : List Nat).flatMap fun n => bigL n 1) ++ ([q] : List Nat).flatMap fun n => bigL n 4).length ≤ 1000000) := Lib.hid (by have := HP.out; simp only [List.length_append, List.flatMap_cons, List.flatMap_nil, big_len, List.length_nil]; omega)
  obtain ⟨KB2, c0, c1, c2, c3⟩ := HK.out _ KX2.out
  have KB2' := Lib.hid KB2
  clear bl gb kw HC1 KA1 KB2
  clear c0 c1 c3
  have HC2 : Hid (Calls Try.prog 39 #[.pointer (some ⟨b, 0, none⟩), .int .i64 1, .slice (some ⟨w2.heap.size, 0, none⟩) 1 1] (w2.alloc (.cells #[.int .i64 ((k : Nat) : Int)] 3)) fun e w' => e = .returned (.tuple #[]) ∧ Bld w' base b ((((pre) ++ ([c] : List Nat).flatMap fun n => bigL n 1) ++ ([q] : List Nat).flatMap fun n => bigL n 4) ++ ([k] : List Nat).flatMap fun n => bigL n 1) ∧ Below base (w2.alloc (.cells #[.int .i64 ((k : Nat) : Int)] 3)) w' ∧ KeepW (w2.alloc (.cells #[.int .i64 ((k : Nat) : Int)] 3)) w') := Lib.hid (by
    have kb := (Below.refl w2.heap.size w2).alloc (Nat.le_refl _) (.cells #[.int .i64 ((k : Nat) : Int)] 3)
    exact w_putI [k] (((pre) ++ ([c] : List Nat).flatMap fun n => bigL n 1) ++ ([q] : List Nat).flatMap fun n => bigL n 4) (some ⟨w2.heap.size, 0, none⟩) 1 1 base b (w2.alloc (.cells #[.int .i64 ((k : Nat) : Int)] 3)) (BL2.out.keep kb) (Nat.le_trans HBS.out (Nat.le_trans GB2.out.size kb.size)) (by decide) (by decide) (by simp) LN2.out (fun n hn => by rw [List.mem_singleton.1 hn]; exact HNc.out.2.2.1) (fun wx _ hk => sl_var .i64 [k] (Blk.newAt w2 _ (by first | exact HZ.out | rfl) 3 _ rfl) (by decide) (by decide) hk))
  have KA2 : Hid (Below base w (w2.alloc (.cells #[.int .i64 ((k : Nat) : Int)] 3)) ∧ KeepW w (w2.alloc (.cells #[.int .i64 ((k : Nat) : Int)] 3))) := Lib.hid (by
    have kb := (Below.refl w2.heap.size w2).alloc (Nat.le_refl _) (.cells #[.int .i64 ((k : Nat) : Int)] 3)
    exact ⟨GB2.out.trans (kb.mono (Nat.le_trans HBS.out GB2.out.size)), KW2.out.trans (KeepW.below kb)⟩)
  go_wp2_with (first | (go_skip) | fail)
  refine HC2.out.mono ?_
  rintro e w3 ⟨rfl, bl, gb, kw⟩
  have BL3 := Lib.hid bl
  have GB3 := Lib.hid (KA2.out.1.trans gb)
  have KW3 := Lib.hid (KA2.out.2.trans kw)
  have KX3 : Hid (KeepW (w.alloc (.cells R.toArray 40)) w3) := Lib.hid (KX2.out.trans (by
    have kb := (Below.refl w2.heap.size w2).alloc (Nat.le_refl _) (.cells #[.int .i64 ((k : Nat) : Int)] 3)
    exact (KeepW.below kb).trans kw))
  have LN3 : Hid (((((pre) ++ ([c] : List Nat).flatMap fun n => bigL n 1) ++ ([q] : List Nat).flatMap fun n => bigL n 4) ++ ([k] : List Nat).flatMap fun n => bigL n 1).length ≤ 1000000) := Lib.hid (by have := HP.out; simp only [List.length_append, List.flatMap_cons, List.flatMap_nil, big_len, List.length_nil]; omega)
  obtain ⟨KB3, c0, c1, c2, c3⟩ := HK.out _ KX3.out
  have KB3' := Lib.hid KB3
  clear bl gb kw HC2 KA2 KB3
  clear c0 c1
  have HC3 : Hid (Calls Try.prog 40 #[.pointer (some ⟨b, 0, none⟩), .int .i64 4, .slice (some ⟨w3.heap.size, 0, none⟩) 1 1] (w3.alloc (.cells #[.int .u32 ((i : Nat) : Int)] 22)) fun e w' => e = .returned (.tuple #[]) ∧ Bld w' base b (((((pre) ++ ([c] : List Nat).flatMap fun n => bigL n 1) ++ ([q] : List Nat).flatMap fun n => bigL n 4) ++ ([k] : List Nat).flatMap fun n => bigL n 1) ++ ([i] : List Nat).flatMap fun n => bigL n 4) ∧ Below base (w3.alloc (.cells #[.int .u32 ((i : Nat) : Int)] 22)) w' ∧ KeepW (w3.alloc (.cells #[.int .u32 ((i : Nat) : Int)] 22)) w') := Lib.hid (by
    have kb := (Below.refl w3.heap.size w3).alloc (Nat.le_refl _) (.cells #[.int .u32 ((i : Nat) : Int)] 22)
    exact w_putU [i] ((((pre) ++ ([c] : List Nat).flatMap fun n => bigL n 1) ++ ([q] : List Nat).flatMap fun n => bigL n 4) ++ ([k] : List Nat).flatMap fun n => bigL n 1) (some ⟨w3.heap.size, 0, none⟩) 1 4 base b (w3.alloc (.cells #[.int .u32 ((i : Nat) : Int)] 22)) (BL3.out.keep kb) (Nat.le_trans HBS.out (Nat.le_trans GB3.out.size kb.size)) (by decide) (by decide) (by simp) LN3.out (fun n hn => by rw [List.mem_singleton.1 hn]; exact HNc.out.2.2.2) (fun wx _ hk => sl_var .u32 [i] (Blk.newAt w3 _ (by first | exact HZ.out | rfl) 22 _ rfl) (by decide) (by decide) hk))
  have KA3 : Hid (Below base w (w3.alloc (.cells #[.int .u32 ((i : Nat) : Int)] 22)) ∧ KeepW w (w3.alloc (.cells #[.int .u32 ((i : Nat) : Int)] 22))) := Lib.hid (by
    have kb := (Below.refl w3.heap.size w3).alloc (Nat.le_refl _) (.cells #[.int .u32 ((i : Nat) : Int)] 22)
    exact ⟨GB3.out.trans (kb.mono (Nat.le_trans HBS.out GB3.out.size)), KW3.out.trans (KeepW.below kb)⟩)
  go_wp2_with (first | (go_skip) | fail)
  refine HC3.out.mono ?_
  rintro e w4 ⟨rfl, bl, gb, kw⟩
  have BL4 := Lib.hid bl
  have GB4 := Lib.hid (KA3.out.1.trans gb)
  have KW4 := Lib.hid (KA3.out.2.trans kw)
  have KX4 : Hid (KeepW (w.alloc (.cells R.toArray 40)) w4) := Lib.hid (KX3.out.trans (by
    have kb := (Below.refl w3.heap.size w3).alloc (Nat.le_refl _) (.cells #[.int .u32 ((i : Nat) : Int)] 22)
    exact (KeepW.below kb).trans kw))
  have LN4 : Hid ((((((pre) ++ ([c] : List Nat).flatMap fun n => bigL n 1) ++ ([q] : List Nat).flatMap fun n => bigL n 4) ++ ([k] : List Nat).flatMap fun n => bigL n 1) ++ ([i] : List Nat).flatMap fun n => bigL n 4).length ≤ 1000000) := Lib.hid (by have := HP.out; simp only [List.length_append, List.flatMap_cons, List.flatMap_nil, big_len, List.length_nil]; omega)
  obtain ⟨KB4, c0, c1, c2, c3⟩ := HK.out _ KX4.out
  have KB4' := Lib.hid KB4
  clear bl gb kw HC3 KA3 KB4
  clear c0 c1 c3
  have hres : ∀ x, pre ++ reqE r = (((((pre) ++ ([c] : List Nat).flatMap fun n => bigL n 1) ++ ([q] : List Nat).flatMap fun n => bigL n 4) ++ ([k] : List Nat).flatMap fun n => bigL n 1) ++ ([i] : List Nat).flatMap fun n => bigL n 4) ++ x ↔ reqVE r = x := fun x => by
    unfold reqE
    obtain ⟨a1, a2, a3, a4⟩ := HCC.out
    rw [a1, a2, a3, a4]
    simp
  have HRES := Lib.hid hres
  clear hres
  by_cases hk : k = 1
  · rw [hk] at c2
    have hve : reqVE r = verE r.ver := by unfold reqVE; rw [if_pos (by rw [HCC.out.2.2.1]; exact hk)]
    have hvk : VerOk r.ver := by
      have := HR.out.2.2.2.2.2.2
      unfold reqVOk at this
      rwa [if_pos (by rw [HCC.out.2.2.1]; exact hk)] at this
    have hA : ∀ j x, (R.drop 4)[j]? = some x → w4.cell? ((⟨w.heap.size, 4, none⟩ : Addr).add j) = some x := fun j x hx => by
      rw [Addr.add_mid, KB4'.out.cell]
      rw [List.getElem?_drop] at hx
      exact hx
    have HA := Lib.hid hA
    have HPV := Lib.hid (w_putVer (rawOf r.ver) (.agg (R.drop 4).toArray) _ base b w4 BL4.out (Nat.le_trans HBS.out GB4.out.size) LN4.out (HVB.out w4 GB4.out) (verS_of hvk) (may_raw hvk))
    have HVE := Lib.hid hve
    clear hA hve hvk hk
    go_wp2_with (first | (go_skip) | (refine wpList_load_addrV rfl 30 _ rfl ⟨w.heap.size, 4, none⟩ rfl (R.drop 4) HA.out Try.underlying30 rfl (by rw [size_ver, HD4.out]) ?_))
    refine HPV.out.mono ?_
    rintro e w5 ⟨rfl, bl, gb, kw⟩
    have BF : Hid (Bld w5 base b (pre ++ reqE r)) := Lib.hid (by
      rw [rawOf_ver] at bl
      rw [(HRES.out _).2 HVE.out]
      exact bl)
    have GF := Lib.hid (GB4.out.trans gb)
    have KF := Lib.hid (KW4.out.trans kw)
    clear bl gb kw
    go_wp2_with (first | (go_skip) | fail)
    go_end0
    exact ⟨rfl, BF.out, GF.out, KF.out⟩
  · have e0 : ((k : Int) == 1) = false := by simp; omega
    have hve : reqVE r = [] := by unfold reqVE; rw [if_neg (by rw [HCC.out.2.2.1]; exact hk)]
    have BF : Hid (Bld w4 base b (pre ++ reqE r)) := Lib.hid (by rw [(HRES.out []).2 hve, List.append_nil]; exact BL4.out)
    clear hk hve
    go_wp2_with (first | (go_skip) | fail)
    go_end0
    exact ⟨rfl, BF.out, GB4.out, KW4.out⟩
end Go.Proofs.Ytloogjdojojehaa
namespace Go.Proofs.Ytloogjdojojehaa
open Go.RowKit
set_option linter.unusedVariables false

set_option maxRecDepth 100000 in
set_option maxHeartbeats 4000000 in
theorem w_putRep (er : Nat) (ids : List Nat) (ver : VerH) (R : List Value) (pre : List Nat) (base b : Nat) (w00 w : World) (hB : Bld w base b pre) (hbase : base ≤ w.heap.size) (hp : pre.length ≤ 900000) (h00 : Below w00.heap.size w00 w) (hz0 : w00.heap.size ≤ base) (hv : RepIV w00 R ⟨er, ids, rawOf ver⟩)
    (he : er < 4294967296) (h8 : ids.length ≤ 8) (hid : ∀ n ∈ ids, n < 4294967296) (hvk : VerOk ver) :
    Calls Try.prog 47 #[.pointer (some ⟨b, 0, none⟩), .agg R.toArray] w fun e w' => e = .returned (.tuple #[]) ∧ Bld w' base b (pre ++ (bigL er 2 ++ ((bigL ids.length 1 ++ ids.flatMap fun n => bigL n 4) ++ verE ver))) ∧ Below base w w' ∧ KeepW w w' := by
  obtain ⟨hRl, ⟨pi, ci, h1⟩, h0, hV⟩ := hv.row
  have hsl : ∀ wx, Below w00.heap.size w00 wx → Sl wx 1 (.slice pi ids.length ci) (rowsU .u32 ids) ∧ VV wx (.agg (R.drop 2).toArray) (rawOf ver) := fun wx hb => by
    obtain ⟨vi, q, rfl, _, hs, hvv⟩ := hv
    have e1 : vi = .slice pi ids.length ci := by simpa using h1
    rw [e1] at hs
    exact ⟨hs.below hb, hvv.below hb⟩
  have HSL := Lib.hid hsl
  have H00 := Lib.hid (fun wx (h : Below base w wx) => h00.trans (h.mono hz0))
  have k0 := Blk.new' w 32 (c := R.toArray) R rfl
  have kb := (Below.refl w.heap.size w).alloc (Nat.le_refl _) (.cells R.toArray 32)
  obtain ⟨n8, hn8⟩ : ∃ n8, ids.length = n8 := ⟨_, rfl⟩
  have HN8 := Lib.hid hn8
  have hh0 : R[0]? = some (.int .i64 (er : Int)) := h0
  have hh1 : R[1]? = some (.slice pi n8 ci) := by rw [← hn8]; exact h1
  have HK : Hid (∀ wx, KeepW (w.alloc (.cells R.toArray 32)) wx → Blk wx w.heap.size 32 R ∧ wx.cell? ⟨w.heap.size, 0, none⟩ = some (.int .i64 (er : Int)) ∧ wx.cell? ⟨w.heap.size, 1, none⟩ = some (.slice pi n8 ci)) := Lib.hid fun wx hw => by
    have h := hw _ _ _ (by decide) (by decide) k0
    exact ⟨h, h.cellOf hh0, h.cellOf hh1⟩
  have HE := Lib.hid he
  have HIDS := Lib.hid hid
  have HVK := Lib.hid hvk
  have H8 : Hid (n8 ≤ 8) := Lib.hid (by rw [← hn8]; exact h8)
  have i8 : (n8 : Int) ≤ 8 := by have := H8.out; omega
  have BL0 := Lib.hid (hB.keep kb)
  have HBS := Lib.hid hbase
  have GB0 := Lib.hid (kb.mono hbase)
  have KW0 : Hid (KeepW w (w.alloc (.cells R.toArray 32))) := Lib.hid (KeepW.below kb)
  have LN0 : Hid (pre.length ≤ 1000000) := Lib.hid (by omega)
  have HP : Hid (pre.length ≤ 900000 ∧ ids.length ≤ 8) := Lib.hid ⟨hp, h8⟩
  have HD4 : Hid ((R.drop 2).length = 4) := Lib.hid (by rw [List.length_drop, hRl])
  have HZ : Hid ((w.alloc (.cells R.toArray 32)).heap.size = w.heap.size + 1) := Lib.hid (by simp)
  have KX0 : Hid (KeepW (w.alloc (.cells R.toArray 32)) (w.alloc (.cells R.toArray 32))) := Lib.hid (KeepW.refl _)
  obtain ⟨-, c0, c1⟩ := HK.out _ (KeepW.refl _)
  clear hB hbase hp k0 kb hh0 hh1 h0 h1 hv hV hsl h00 hz0 he h8 hid hvk hn8
  go_enter Try.func47, Try.ntmps47
  have HC0 : Hid (Calls Try.prog 66 #[.pointer (some ⟨b, 0, none⟩), .int .i64 2, .slice (some ⟨w.heap.size + 1, 0, none⟩) 1 1] ((w.alloc (.cells R.toArray 32)).alloc (.cells #[.int .i64 ((er : Nat) : Int)] 24)) fun e w' => e = .returned (.tuple #[]) ∧ Bld w' base b ((pre) ++ ([er] : List Nat).flatMap fun n => bigL n 2) ∧ Below base ((w.alloc (.cells R.toArray 32)).alloc (.cells #[.int .i64 ((er : Nat) : Int)] 24)) w' ∧ KeepW ((w.alloc (.cells R.toArray 32)).alloc (.cells #[.int .i64 ((er : Nat) : Int)] 24)) w') := Lib.hid (by
    have kb := (Below.refl (w.alloc (.cells R.toArray 32)).heap.size (w.alloc (.cells R.toArray 32))).alloc (Nat.le_refl _) (.cells #[.int .i64 ((er : Nat) : Int)] 24)
    exact w_putE [er] (pre) (some ⟨w.heap.size + 1, 0, none⟩) 1 2 base b ((w.alloc (.cells R.toArray 32)).alloc (.cells #[.int .i64 ((er : Nat) : Int)] 24)) (BL0.out.keep kb) (Nat.le_trans HBS.out (Nat.le_trans GB0.out.size kb.size)) (by decide) (by decide) (by simp) LN0.out (fun n hn => by simp only [List.mem_cons, List.not_mem_nil, or_false] at hn; rw [hn]; exact HE.out) (fun wx _ hk => sl_var .i64 [er] (Blk.newAt (w.alloc (.cells R.toArray 32)) _ (by first | exact HZ.out | rfl) 24 _ rfl) (by decide) (by decide) hk))
  have KA0 : Hid (Below base w ((w.alloc (.cells R.toArray 32)).alloc (.cells #[.int .i64 ((er : Nat) : Int)] 24)) ∧ KeepW w ((w.alloc (.cells R.toArray 32)).alloc (.cells #[.int .i64 ((er : Nat) : Int)] 24))) := Lib.hid (by
    have kb := (Below.refl (w.alloc (.cells R.toArray 32)).heap.size (w.alloc (.cells R.toArray 32))).alloc (Nat.le_refl _) (.cells #[.int .i64 ((er : Nat) : Int)] 24)
    exact ⟨GB0.out.trans (kb.mono (Nat.le_trans HBS.out GB0.out.size)), KW0.out.trans (KeepW.below kb)⟩)
  go_wp2_with (first | (go_skip) | fail)
  refine HC0.out.mono ?_
  rintro e w1 ⟨rfl, bl, gb, kw⟩
  have BL1 := Lib.hid bl
  have GB1 := Lib.hid (KA0.out.1.trans gb)
  have KW1 := Lib.hid (KA0.out.2.trans kw)
  have KX1 : Hid (KeepW (w.alloc (.cells R.toArray 32)) w1) := Lib.hid (KX0.out.trans (by
    have kb := (Below.refl (w.alloc (.cells R.toArray 32)).heap.size (w.alloc (.cells R.toArray 32))).alloc (Nat.le_refl _) (.cells #[.int .i64 ((er : Nat) : Int)] 24)
    exact (KeepW.below kb).trans kw))
  clear bl gb kw HC0 KA0 BL0 GB0 KW0 KX0 LN0
  clear c0 c1
  have LN1 : Hid (((pre) ++ ([er] : List Nat).flatMap fun n => bigL n 2).length ≤ 1000000) := Lib.hid (by have := HP.out; simp only [List.length_append, List.flatMap_cons, List.flatMap_nil, big_len, List.length_nil]; have := flat_big_len 4 ids; omega)
  obtain ⟨KB1, -, c1⟩ := HK.out _ KX1.out
  have KB1' := Lib.hid KB1
  clear KB1
  have HC1 : Hid (Calls Try.prog 39 #[.pointer (some ⟨b, 0, none⟩), .int .i64 1, .slice (some ⟨w1.heap.size, 0, none⟩) 1 1] (w1.alloc (.cells #[.int .i64 ((n8 : Nat) : Int)] 3)) fun e w' => e = .returned (.tuple #[]) ∧ Bld w' base b (((pre) ++ ([er] : List Nat).flatMap fun n => bigL n 2) ++ ([n8] : List Nat).flatMap fun n => bigL n 1) ∧ Below base (w1.alloc (.cells #[.int .i64 ((n8 : Nat) : Int)] 3)) w' ∧ KeepW (w1.alloc (.cells #[.int .i64 ((n8 : Nat) : Int)] 3)) w') := Lib.hid (by
    have kb := (Below.refl w1.heap.size w1).alloc (Nat.le_refl _) (.cells #[.int .i64 ((n8 : Nat) : Int)] 3)
    exact w_putI [n8] ((pre) ++ ([er] : List Nat).flatMap fun n => bigL n 2) (some ⟨w1.heap.size, 0, none⟩) 1 1 base b (w1.alloc (.cells #[.int .i64 ((n8 : Nat) : Int)] 3)) (BL1.out.keep kb) (Nat.le_trans HBS.out (Nat.le_trans GB1.out.size kb.size)) (by decide) (by decide) (by simp) LN1.out (fun n hn => by simp only [List.mem_cons, List.not_mem_nil, or_false] at hn; rw [hn]; exact (by have := H8.out; omega)) (fun wx _ hk => sl_var .i64 [n8] (Blk.newAt w1 _ (by first | exact HZ.out | rfl) 3 _ rfl) (by decide) (by decide) hk))
  have KA1 : Hid (Below base w (w1.alloc (.cells #[.int .i64 ((n8 : Nat) : Int)] 3)) ∧ KeepW w (w1.alloc (.cells #[.int .i64 ((n8 : Nat) : Int)] 3))) := Lib.hid (by
    have kb := (Below.refl w1.heap.size w1).alloc (Nat.le_refl _) (.cells #[.int .i64 ((n8 : Nat) : Int)] 3)
    exact ⟨GB1.out.trans (kb.mono (Nat.le_trans HBS.out GB1.out.size)), KW1.out.trans (KeepW.below kb)⟩)
  go_wp2_with (first | (go_skip) | fail)
  refine HC1.out.mono ?_
  rintro e w2 ⟨rfl, bl, gb, kw⟩
  have BL2 := Lib.hid bl
  have GB2 := Lib.hid (KA1.out.1.trans gb)
  have KW2 := Lib.hid (KA1.out.2.trans kw)
  have KX2 : Hid (KeepW (w.alloc (.cells R.toArray 32)) w2) := Lib.hid (KX1.out.trans (by
    have kb := (Below.refl w1.heap.size w1).alloc (Nat.le_refl _) (.cells #[.int .i64 ((n8 : Nat) : Int)] 3)
    exact (KeepW.below kb).trans kw))
  clear bl gb kw HC1 KA1 BL1 GB1 KW1 KX1 LN1
  clear c1
  have LN2 : Hid ((((pre) ++ ([er] : List Nat).flatMap fun n => bigL n 2) ++ ([n8] : List Nat).flatMap fun n => bigL n 1).length ≤ 1000000) := Lib.hid (by have := HP.out; simp only [List.length_append, List.flatMap_cons, List.flatMap_nil, big_len, List.length_nil]; have := flat_big_len 4 ids; omega)
  obtain ⟨KB2, -, c1⟩ := HK.out _ KX2.out
  have KB2' := Lib.hid KB2
  clear KB2
  have HS2 := Lib.hid ((by have h := w_putU ids (((pre) ++ ([er] : List Nat).flatMap fun n => bigL n 2) ++ ([n8] : List Nat).flatMap fun n => bigL n 1) pi ci 4 base b w2 BL2.out (Nat.le_trans HBS.out GB2.out.size) (by decide) (by decide) (by have := HP.out; omega) LN2.out HIDS.out (fun wx hb _ => (HSL.out wx (H00.out wx (GB2.out.trans hb))).1); rw [HN8.out] at h; exact h : Calls Try.prog 40 #[.pointer (some ⟨b, 0, none⟩), .int .i64 4, .slice pi n8 ci] w2 fun e w' => e = .returned (.tuple #[]) ∧ Bld w' base b ((((pre) ++ ([er] : List Nat).flatMap fun n => bigL n 2) ++ ([n8] : List Nat).flatMap fun n => bigL n 1) ++ ids.flatMap fun n => bigL n 4) ∧ Below base w2 w' ∧ KeepW w2 w'))
  go_wp2_with (first | (go_skip) | fail)
  refine HS2.out.mono ?_
  rintro e w3 ⟨rfl, bl, gb, kw⟩
  have BL3 : Hid (Bld w3 base b ((((pre) ++ ([er] : List Nat).flatMap fun n => bigL n 2) ++ ([n8] : List Nat).flatMap fun n => bigL n 1) ++ ids.flatMap fun n => bigL n 4)) := Lib.hid bl
  have GB3 := Lib.hid (GB2.out.trans gb)
  have KW3 := Lib.hid (KW2.out.trans kw)
  have KX3 : Hid (KeepW (w.alloc (.cells R.toArray 32)) w3) := Lib.hid (KX2.out.trans kw)
  clear bl gb kw HS2 BL2 GB2 KW2 KX2 LN2
  clear c1
  have LN3 : Hid (((((pre) ++ ([er] : List Nat).flatMap fun n => bigL n 2) ++ ([n8] : List Nat).flatMap fun n => bigL n 1) ++ ids.flatMap fun n => bigL n 4).length ≤ 1000000) := Lib.hid (by have := HP.out; simp only [List.length_append, List.flatMap_cons, List.flatMap_nil, big_len, List.length_nil]; have := flat_big_len 4 ids; omega)
  obtain ⟨KB3, -, -⟩ := HK.out _ KX3.out
  have KB3' := Lib.hid KB3
  clear KB3
  have HA : Hid (∀ j x, (R.drop 2)[j]? = some x → w3.cell? ((⟨w.heap.size, 2, none⟩ : Addr).add j) = some x) := Lib.hid fun j x hx => by
    rw [Addr.add_mid, KB3'.out.cell]
    rw [List.getElem?_drop] at hx
    exact hx
  have HPV := Lib.hid (w_putVer (rawOf ver) (.agg (R.drop 2).toArray) _ base b w3 BL3.out (Nat.le_trans HBS.out GB3.out.size) LN3.out (HSL.out w3 (H00.out _ GB3.out)).2 (verS_of HVK.out) (may_raw HVK.out))
  go_wp2_with (first | (go_skip) | (refine wpList_load_addrV rfl 30 _ rfl ⟨w.heap.size, 2, none⟩ rfl (R.drop 2) HA.out Try.underlying30 rfl (by rw [size_ver, HD4.out]) ?_))
  refine HPV.out.mono ?_
  rintro e w9 ⟨rfl, bl, gb, kw⟩
  have BF : Hid (Bld w9 base b (pre ++ (bigL er 2 ++ ((bigL ids.length 1 ++ ids.flatMap fun n => bigL n 4) ++ verE ver)))) := Lib.hid (by
    rw [rawOf_ver] at bl
    have e : ((((pre) ++ ([er] : List Nat).flatMap fun n => bigL n 2) ++ ([n8] : List Nat).flatMap fun n => bigL n 1) ++ ids.flatMap fun n => bigL n 4) ++ verE ver = pre ++ (bigL er 2 ++ ((bigL ids.length 1 ++ ids.flatMap fun n => bigL n 4) ++ verE ver)) := by rw [HN8.out]; simp
    rw [← e]
    exact bl)
  have GF := Lib.hid (GB3.out.trans gb)
  have KF := Lib.hid (KW3.out.trans kw)
  clear bl gb kw
  go_wp2_with (first | (go_skip) | fail)
  go_end0
  exact ⟨rfl, BF.out, GF.out, KF.out⟩
set_option maxRecDepth 100000 in
set_option maxHeartbeats 4000000 in
theorem w_PutReq_yes (r : ReqM) (v : Value) (w : World) (hv : ReqTold w v (reqU r)) (hr : ReqOkM r) :
    Calls Try.prog 9 #[v] w fun e w' => e = .returned (.string (tx (reqE r))) ∧ Below w.heap.size w w' := by
  obtain ⟨R, rfl, hRl, -, -, -, -, -⟩ := req_cells hv
  have k0 := Blk.new' w 40 (c := R.toArray) R rfl
  have kb := (Below.refl w.heap.size w).alloc (Nat.le_refl _) (.cells R.toArray 40)
  have HM := Lib.hid (w_mayRequest (reqU r) (.agg R.toArray) true _ (reqU_may hr) (hv.below kb) (verS_raw hr.2.2.2.2.2.2))
  have K0 := Lib.hid k0
  have KB := Lib.hid kb
  have HRL := Lib.hid hRl
  have HV := Lib.hid hv
  have HR := Lib.hid hr
  have HBY : Hid (Bys (reqE r)) := Lib.hid (req_codes.bys r hr)
  clear k0 kb hRl hv hr
  go_enter Try.func9, Try.ntmps9
  go_wp2_with (first | (go_skip) | (refine wpList_load_blkW rfl 40 _ rfl w.heap.size rfl K0.out Try.underlying40 rfl (by rw [size_req, HRL.out]) ?_))
  refine HM.out.mono ?_
  rintro e w2 ⟨rfl, b2⟩
  obtain ⟨N, hN⟩ : ∃ N, w2.heap.size = N := ⟨_, rfl⟩
  have bl0 := Bld.new w2 N (by rw [hN]; exact Nat.le_refl _)
  rw [hN] at bl0
  have bn := (Below.refl w2.heap.size w2).alloc (Nat.le_refl _) (.cells #[.pointer none, .slice none 0 0] 62)
  have b02 := KB.out.trans (b2.mono KB.out.size)
  have b03 := b02.trans (bn.mono b02.size)
  have K3 := Lib.hid ((K0.out.below b2 K0.out.lt).below bn (K0.out.below b2 K0.out.lt).lt)
  have HPR := Lib.hid (w_putReq r (.agg R.toArray) [] N N _ bl0 (by rw [← hN]; exact bn.size) (by decide) (HV.out.below b03) (fun wx h => HV.out.below (b03.trans (h.mono (by rw [← hN]; exact b02.size)))) HR.out)
  have B3 := Lib.hid b03
  have HNW : Hid (w.heap.size ≤ N) := Lib.hid (by rw [← hN]; exact b02.size)
  have HN := Lib.hid hN
  clear bl0 bn b02 b03 b2 hN HM
  go_wp2_with (first | (go_skip) | (refine wpList_load_blkW rfl 40 _ rfl w.heap.size rfl K3.out Try.underlying40 rfl (by rw [size_req, HRL.out]) ?_))
  rw [HN.out]
  refine HPR.out.mono ?_
  rintro e w4 ⟨rfl, bl4, b4, -⟩
  have HST := Lib.hid (b_String w4 N N ([] ++ reqE r) bl4 (by rw [List.nil_append]; exact HBY.out) (by rw [List.nil_append]; have := reqE_len HR.out; omega))
  have B4 := Lib.hid (B3.out.trans (b4.mono HNW.out))
  clear bl4 b4 HPR
  go_wp2_with (first | (go_skip) | fail)
  refine HST.out.mono ?_
  rintro e w5 ⟨rfl, b5⟩
  have B5 := Lib.hid (B4.out.trans (b5.mono HNW.out))
  clear b5
  go_wp2
  go_ret
  exact ⟨rfl, B5.out⟩
set_option maxRecDepth 100000 in
set_option maxHeartbeats 4000000 in
theorem w_PutReq_no (r : ReqU RawV) (v : Value) (w : World) (hb : mayBeR r = false) (hv : ReqTold w v r) (ha : VerS r.ver) :
    Calls Try.prog 9 #[v] w fun e w' => e = .returned (.string ⟨#[]⟩) ∧ Below w.heap.size w w' := by
  obtain ⟨R, rfl, hRl, -, -, -, -, -⟩ := req_cells hv
  have k0 := Blk.new' w 40 (c := R.toArray) R rfl
  have kb := (Below.refl w.heap.size w).alloc (Nat.le_refl _) (.cells R.toArray 40)
  have HM := Lib.hid (w_mayRequest r (.agg R.toArray) false _ hb (hv.below kb) ha)
  have K0 := Lib.hid k0
  have KB := Lib.hid kb
  have HRL := Lib.hid hRl
  clear k0 kb hRl hv hb ha
  go_enter Try.func9, Try.ntmps9
  go_wp2_with (first | (go_skip) | (refine wpList_load_blkW rfl 40 _ rfl w.heap.size rfl K0.out Try.underlying40 rfl (by rw [size_req, HRL.out]) ?_))
  refine HM.out.mono ?_
  rintro e w2 ⟨rfl, b2⟩
  have B2 := Lib.hid (KB.out.trans (b2.mono KB.out.size))
  clear b2
  go_wp2_with (first | (go_skip) | fail)
  go_ret
  exact ⟨rfl, B2.out⟩
end Go.Proofs.Ytloogjdojojehaa
namespace Go.Proofs.Ytloogjdojojehaa
open Go.RowKit
set_option linter.unusedVariables false

theorem reqs_len {l : List ReqM} (h : ∀ r ∈ l, ReqOkM r) : (l.flatMap reqE).length ≤ l.length * 1010 := by
  induction l with
  | nil => simp
  | cons x l ih =>
    have h1 := reqE_len (h x (by simp))
    have h2 := ih fun r hr => h r (by simp [hr])
    rw [List.flatMap_cons, List.length_append, List.length_cons, Nat.succ_mul]
    omega
theorem reqs_take {l : List ReqM} (h : ∀ r ∈ l, ReqOkM r) (j : Nat) : ((l.take j).flatMap reqE).length ≤ l.length * 1010 := by
  have h1 := reqs_len (l := l.take j) fun r hr => h r (List.mem_of_mem_take hr)
  have h2 : (l.take j).length * 1010 ≤ l.length * 1010 := Nat.mul_le_mul_right _ (by rw [List.length_take]; exact Nat.min_le_right _ _)
  exact Nat.le_trans h1 h2
theorem log_at {l : List ReqM} {j : Nat} (hj : j < l.length) : ∃ x ∈ l, (l.map reqU).getD j noQ = reqU x ∧ (l.take (j + 1)).flatMap reqE = (l.take j).flatMap reqE ++ reqE x := by
  refine ⟨l[j], List.getElem_mem hj, by simp [hj], ?_⟩
  rw [List.take_succ_eq_append_getElem hj, List.flatMap_append]
  simp
set_option maxRecDepth 100000 in
set_option maxHeartbeats 8000000 in
theorem w_putMsg (m : MsgM) (v : Value) (base b : Nat) (w00 w : World) (hB : Bld w base b []) (hbase : base ≤ w.heap.size) (h00 : Below w00.heap.size w00 w) (hz0 : w00.heap.size ≤ base) (hv : MsgTold w00 v (msgU m)) (hm : MsgOk m) :
    Calls Try.prog 24 #[.pointer (some ⟨b, 0, none⟩), v] w fun e w' => e = .returned (.tuple #[]) ∧ Bld w' base b (msgE m) ∧ Below base w w' ∧ KeepW w w' := by
  obtain ⟨pl, cl, rp, rfl, hlog, hrp, h32, hby⟩ := msg_split hv
  have hr6 := hrp.row.1
  have hh : (ints .u8 (nn (msgU m).hash)).length = 32 := by rw [ints_length, nn_length, h32]
  obtain ⟨fk, hfk⟩ : ∃ x : Nat, m.kind = x := ⟨_, rfl⟩
  obtain ⟨fs, hfs⟩ : ∃ x : Nat, m.src = x := ⟨_, rfl⟩
  obtain ⟨fd, hfd⟩ : ∃ x : Nat, m.dst = x := ⟨_, rfl⟩
  obtain ⟨fv, hfv⟩ : ∃ x : Nat, m.view = x := ⟨_, rfl⟩
  obtain ⟨fl, hfl⟩ : ∃ x : Nat, m.last = x := ⟨_, rfl⟩
  obtain ⟨fn, hfn⟩ : ∃ x : Nat, m.n = x := ⟨_, rfl⟩
  obtain ⟨fc, hfc⟩ : ∃ x : Nat, m.commit = x := ⟨_, rfl⟩
  obtain ⟨ll, hll⟩ : ∃ x : Nat, m.log.length = x := ⟨_, rfl⟩
  obtain ⟨fcl, hfcl⟩ : ∃ x : Nat, m.client = x := ⟨_, rfl⟩
  obtain ⟨fq, hfq⟩ : ∃ x : Nat, m.seq = x := ⟨_, rfl⟩
  obtain ⟨Z, hZb⟩ : ∃ Z, tx m.block = Z := ⟨_, rfl⟩
  have hR0 : mC (msgU m).kind (msgU m).src (msgU m).dst (msgU m).view (msgU m).last (msgU m).n (msgU m).commit (.slice pl (msgU m).log.length cl) (msgU m).client (msgU m).seq rp (ints .u8 (nn (msgU m).hash)) (msgU m).block = mC (fk : Int) (fs : Int) (fd : Int) fv fl (fn : Int) (fc : Int) (.slice pl ll cl) (fcl : Int) fq rp (ints .u8 (nn m.hash)) Z := by
    rw [← hfk, ← hfs, ← hfd, ← hfv, ← hfl, ← hfn, ← hfc, ← hfcl, ← hfq, ← hll, ← hZb]
    unfold msgU
    dsimp only
    rw [List.length_map]
  rw [hR0]
  have hlog : ReqsV w00 (.slice pl ll cl) (m.log.map reqU) := by rw [← hll, ← List.length_map (f := reqU)]; exact hlog
  obtain ⟨R, hR⟩ : ∃ R, mC (fk : Int) (fs : Int) (fd : Int) fv fl (fn : Int) (fc : Int) (.slice pl ll cl) (fcl : Int) fq rp (ints .u8 (nn m.hash)) Z = R := ⟨_, rfl⟩
  rw [hR]
  have k0 := Blk.new' w 36 (c := R.toArray) R rfl
  have kb := (Below.refl w.heap.size w).alloc (Nat.le_refl _) (.cells R.toArray 36)
  have HK : Hid (∀ wx, KeepW (w.alloc (.cells R.toArray 36)) wx → Blk wx w.heap.size 36 R ∧ wx.cell? ⟨w.heap.size, 0, none⟩ = some (.int .i64 (fk : Int)) ∧ wx.cell? ⟨w.heap.size, 1, none⟩ = some (.int .i64 (fs : Int)) ∧ wx.cell? ⟨w.heap.size, 2, none⟩ = some (.int .i64 (fd : Int)) ∧ wx.cell? ⟨w.heap.size, 3, none⟩ = some (.int .u32 (fv : Int)) ∧ wx.cell? ⟨w.heap.size, 4, none⟩ = some (.int .u32 (fl : Int)) ∧ wx.cell? ⟨w.heap.size, 5, none⟩ = some (.int .i64 (fn : Int)) ∧ wx.cell? ⟨w.heap.size, 6, none⟩ = some (.int .i64 (fc : Int)) ∧ wx.cell? ⟨w.heap.size, 7, none⟩ = some (.slice pl ll cl) ∧ wx.cell? ⟨w.heap.size, 8, none⟩ = some (.int .i64 (fcl : Int)) ∧ wx.cell? ⟨w.heap.size, 9, none⟩ = some (.int .u32 (fq : Int)) ∧ wx.cell? ⟨w.heap.size, 48, none⟩ = some (.string Z)) := Lib.hid fun wx hw => by
    have h := hw _ _ _ (by decide) (by decide) k0
    refine ⟨h, ?_⟩
    rw [← hR] at h
    exact ⟨h.cellOf rfl, h.cellOf rfl, h.cellOf rfl, h.cellOf rfl, h.cellOf rfl, h.cellOf rfl, h.cellOf rfl, h.cellOf rfl, h.cellOf rfl, h.cellOf rfl, h.cellOf (mC_last _ _ _ _ _ _ _ _ _ _ _ ⟨#[]⟩ hr6 hh).1⟩
  have HRP : Hid (∀ wx, Blk wx w.heap.size 36 R → ∀ i x, rp[i]? = some x → wx.cell? ((⟨w.heap.size, 10, none⟩ : Addr).add i) = some x) := Lib.hid fun wx hk => by
    rw [← hR] at hk
    exact mC_rep hk
  have HHX : Hid (∀ j u, (ints .u8 (nn m.hash))[j]? = some u → R[16 + j]? = some u) := Lib.hid fun j u hj => by
    rw [← hR]
    have hi := (List.getElem?_eq_some_iff.1 hj).1
    unfold mC
    rw [List.getElem?_append_right (by simp; omega), List.getElem?_append_right (by simp [hr6]; omega), List.getElem?_append_left (by simp [hr6]; omega)]
    have e : 16 + j - [Value.int IntKind.i64 (fk : Int), .int .i64 (fs : Int), .int .i64 (fd : Int), .int .u32 (fv : Int), .int .u32 (fl : Int), .int .i64 (fn : Int), .int .i64 (fc : Int), .slice pl ll cl, .int .i64 (fcl : Int), .int .u32 (fq : Int)].length - rp.length = j := by simp [hr6]; omega
    rw [e]
    exact hj
  have HMO := Lib.hid hm
  obtain ⟨⟨q1, q2, q3, q4, q5, q6, q7, ⟨q8, q8b⟩, q9, q10, q11, ⟨q12, q12b⟩, q13, q14, q15⟩, qm⟩ := hm
  have HLOK := Lib.hid q8b
  have HLL : Hid (m.log.length ≤ 40) := Lib.hid q8
  have HL40 : Hid (ll ≤ 40) := Lib.hid (by rw [← hll]; exact q8)
  have l40 : (ll : Int) ≤ 40 := by have := HL40.out; omega
  have hqm : m.block.length ≤ 1000 := by
    unfold msgMay at qm
    simp only [Bool.and_eq_true, decide_eq_true_eq] at qm
    exact qm.2
  have HBK : Hid (m.block.length ≤ 1000 ∧ Bys m.block ∧ m.hash.length = 32) := Lib.hid ⟨hqm, q15.2, q14.1⟩
  have HNf : Hid ((fk < 4294967296 ∧ fs < 4294967296 ∧ fd < 4294967296) ∧ (fv < 4294967296 ∧ fl < 4294967296) ∧ (fn < 4294967296 ∧ fc < 4294967296) ∧ fcl < 4294967296 ∧ fq < 4294967296) := Lib.hid (by subst hfk hfs hfd hfv hfl hfn hfc hfcl hfq; omega)
  have HRPV : Hid (RepIV w00 rp ⟨(m.err : Int), m.ids, rawOf m.ver⟩) := Lib.hid hrp
  have HER : Hid (m.err < 4294967296 ∧ m.ids.length ≤ 8 ∧ (∀ n ∈ m.ids, n < 4294967296) ∧ VerOk m.ver) := Lib.hid ⟨by omega, q12, fun n hn => by have := q12b n hn; omega, q13⟩
  have HNN : Hid ((m.kind = fk ∧ m.src = fs ∧ m.dst = fd ∧ m.view = fv ∧ m.last = fl) ∧ m.n = fn ∧ m.commit = fc ∧ m.log.length = ll ∧ m.client = fcl ∧ m.seq = fq) := Lib.hid ⟨⟨hfk, hfs, hfd, hfv, hfl⟩, hfn, hfc, hll, hfcl, hfq⟩
  have HZB := Lib.hid hZb
  have HLOG := Lib.hid hlog
  have H00 := Lib.hid (fun wx (h : Below base w wx) => h00.trans (h.mono hz0))
  have HR6 := Lib.hid hr6
  have HSZ0 := Lib.hid hz0
  have BL0 := Lib.hid (hB.keep kb)
  have HBS := Lib.hid hbase
  have GB0 := Lib.hid (kb.mono hbase)
  have KW0 : Hid (KeepW w (w.alloc (.cells R.toArray 36))) := Lib.hid (KeepW.below kb)
  have LN0 : Hid (([] : List Nat).length ≤ 1000000) := Lib.hid (by decide)
  have HP : Hid (True) := Lib.hid trivial
  have HZ : Hid ((w.alloc (.cells R.toArray 36)).heap.size = w.heap.size + 1) := Lib.hid (by simp)
  have KX0 : Hid (KeepW (w.alloc (.cells R.toArray 36)) (w.alloc (.cells R.toArray 36))) := Lib.hid (KeepW.refl _)
  obtain ⟨-, c0, c1, c2, -, -, -, -, -, -, -, -⟩ := HK.out _ (KeepW.refl _)
  clear hB hbase k0 kb h32 hby hh hv h00 hz0 hlog hrp hr6 hR hR0 q1 q2 q3 q4 q5 q6 q7 q8 q8b q9 q10 q11 q12 q12b q13 q14 q15 qm hqm hfk hfs hfd hfv hfl hfn hfc hll hfcl hfq hZb
  go_enter Try.func24, Try.ntmps24
  have HC0 : Hid (Calls Try.prog 39 #[.pointer (some ⟨b, 0, none⟩), .int .i64 1, .slice (some ⟨w.heap.size + 1, 0, none⟩) 3 3] ((w.alloc (.cells R.toArray 36)).alloc (.cells #[.int .i64 ((fk : Nat) : Int), .int .i64 ((fs : Nat) : Int), .int .i64 ((fd : Nat) : Int)] 3)) fun e w' => e = .returned (.tuple #[]) ∧ Bld w' base b ((([] : List Nat)) ++ ([fk, fs, fd] : List Nat).flatMap fun n => bigL n 1) ∧ Below base ((w.alloc (.cells R.toArray 36)).alloc (.cells #[.int .i64 ((fk : Nat) : Int), .int .i64 ((fs : Nat) : Int), .int .i64 ((fd : Nat) : Int)] 3)) w' ∧ KeepW ((w.alloc (.cells R.toArray 36)).alloc (.cells #[.int .i64 ((fk : Nat) : Int), .int .i64 ((fs : Nat) : Int), .int .i64 ((fd : Nat) : Int)] 3)) w') := Lib.hid (by
    have kb := (Below.refl (w.alloc (.cells R.toArray 36)).heap.size (w.alloc (.cells R.toArray 36))).alloc (Nat.le_refl _) (.cells #[.int .i64 ((fk : Nat) : Int), .int .i64 ((fs : Nat) : Int), .int .i64 ((fd : Nat) : Int)] 3)
    exact w_putI [fk, fs, fd] (([] : List Nat)) (some ⟨w.heap.size + 1, 0, none⟩) 3 1 base b ((w.alloc (.cells R.toArray 36)).alloc (.cells #[.int .i64 ((fk : Nat) : Int), .int .i64 ((fs : Nat) : Int), .int .i64 ((fd : Nat) : Int)] 3)) (BL0.out.keep kb) (Nat.le_trans HBS.out (Nat.le_trans GB0.out.size kb.size)) (by decide) (by decide) (by simp) LN0.out (fun n hn => by
      simp only [List.mem_cons, List.not_mem_nil, or_false] at hn
      rcases hn with hn | hn | hn
      · rw [hn]; exact HNf.out.1.1
      · rw [hn]; exact HNf.out.1.2.1
      · rw [hn]; exact HNf.out.1.2.2) (fun wx _ hk => sl_var .i64 [fk, fs, fd] (Blk.newAt (w.alloc (.cells R.toArray 36)) _ (by first | exact HZ.out | rfl) 3 _ rfl) (by decide) (by decide) hk))
  have KA0 : Hid (Below base w ((w.alloc (.cells R.toArray 36)).alloc (.cells #[.int .i64 ((fk : Nat) : Int), .int .i64 ((fs : Nat) : Int), .int .i64 ((fd : Nat) : Int)] 3)) ∧ KeepW w ((w.alloc (.cells R.toArray 36)).alloc (.cells #[.int .i64 ((fk : Nat) : Int), .int .i64 ((fs : Nat) : Int), .int .i64 ((fd : Nat) : Int)] 3))) := Lib.hid (by
    have kb := (Below.refl (w.alloc (.cells R.toArray 36)).heap.size (w.alloc (.cells R.toArray 36))).alloc (Nat.le_refl _) (.cells #[.int .i64 ((fk : Nat) : Int), .int .i64 ((fs : Nat) : Int), .int .i64 ((fd : Nat) : Int)] 3)
    exact ⟨GB0.out.trans (kb.mono (Nat.le_trans HBS.out GB0.out.size)), KW0.out.trans (KeepW.below kb)⟩)
  go_wp2_with (first | (go_skip) | fail)
  refine HC0.out.mono ?_
  rintro e w1 ⟨rfl, bl, gb, kw⟩
  have BL1 := Lib.hid bl
  have GB1 := Lib.hid (KA0.out.1.trans gb)
  have KW1 := Lib.hid (KA0.out.2.trans kw)
  have KX1 : Hid (KeepW (w.alloc (.cells R.toArray 36)) w1) := Lib.hid (KX0.out.trans (by
    have kb := (Below.refl (w.alloc (.cells R.toArray 36)).heap.size (w.alloc (.cells R.toArray 36))).alloc (Nat.le_refl _) (.cells #[.int .i64 ((fk : Nat) : Int), .int .i64 ((fs : Nat) : Int), .int .i64 ((fd : Nat) : Int)] 3)
    exact (KeepW.below kb).trans kw))
  clear bl gb kw HC0 KA0 BL0 GB0 KW0 KX0 LN0
  clear c0 c1 c2
  have LN1 : Hid (((([] : List Nat)) ++ ([fk, fs, fd] : List Nat).flatMap fun n => bigL n 1).length ≤ 1000000) := Lib.hid (by have := HP.out; simp only [List.length_append, List.flatMap_cons, List.flatMap_nil, big_len, List.length_nil]; have := reqs_len HLOK.out; have := HLL.out; omega)
  obtain ⟨KB1, -, -, -, c3, c4, -, -, -, -, -, -⟩ := HK.out _ KX1.out
  have KB1' := Lib.hid KB1
  clear KB1
  have HC1 : Hid (Calls Try.prog 40 #[.pointer (some ⟨b, 0, none⟩), .int .i64 4, .slice (some ⟨w1.heap.size, 0, none⟩) 2 2] (w1.alloc (.cells #[.int .u32 ((fv : Nat) : Int), .int .u32 ((fl : Nat) : Int)] 22)) fun e w' => e = .returned (.tuple #[]) ∧ Bld w' base b (((([] : List Nat)) ++ ([fk, fs, fd] : List Nat).flatMap fun n => bigL n 1) ++ ([fv, fl] : List Nat).flatMap fun n => bigL n 4) ∧ Below base (w1.alloc (.cells #[.int .u32 ((fv : Nat) : Int), .int .u32 ((fl : Nat) : Int)] 22)) w' ∧ KeepW (w1.alloc (.cells #[.int .u32 ((fv : Nat) : Int), .int .u32 ((fl : Nat) : Int)] 22)) w') := Lib.hid (by
    have kb := (Below.refl w1.heap.size w1).alloc (Nat.le_refl _) (.cells #[.int .u32 ((fv : Nat) : Int), .int .u32 ((fl : Nat) : Int)] 22)
    exact w_putU [fv, fl] ((([] : List Nat)) ++ ([fk, fs, fd] : List Nat).flatMap fun n => bigL n 1) (some ⟨w1.heap.size, 0, none⟩) 2 4 base b (w1.alloc (.cells #[.int .u32 ((fv : Nat) : Int), .int .u32 ((fl : Nat) : Int)] 22)) (BL1.out.keep kb) (Nat.le_trans HBS.out (Nat.le_trans GB1.out.size kb.size)) (by decide) (by decide) (by simp) LN1.out (fun n hn => by
      simp only [List.mem_cons, List.not_mem_nil, or_false] at hn
      rcases hn with hn | hn
      · rw [hn]; exact HNf.out.2.1.1
      · rw [hn]; exact HNf.out.2.1.2) (fun wx _ hk => sl_var .u32 [fv, fl] (Blk.newAt w1 _ (by first | exact HZ.out | rfl) 22 _ rfl) (by decide) (by decide) hk))
  have KA1 : Hid (Below base w (w1.alloc (.cells #[.int .u32 ((fv : Nat) : Int), .int .u32 ((fl : Nat) : Int)] 22)) ∧ KeepW w (w1.alloc (.cells #[.int .u32 ((fv : Nat) : Int), .int .u32 ((fl : Nat) : Int)] 22))) := Lib.hid (by
    have kb := (Below.refl w1.heap.size w1).alloc (Nat.le_refl _) (.cells #[.int .u32 ((fv : Nat) : Int), .int .u32 ((fl : Nat) : Int)] 22)
    exact ⟨GB1.out.trans (kb.mono (Nat.le_trans HBS.out GB1.out.size)), KW1.out.trans (KeepW.below kb)⟩)
  go_wp2_with (first | (go_skip) | fail)
  refine HC1.out.mono ?_
  rintro e w2 ⟨rfl, bl, gb, kw⟩
  have BL2 := Lib.hid bl
  have GB2 := Lib.hid (KA1.out.1.trans gb)
  have KW2 := Lib.hid (KA1.out.2.trans kw)
  have KX2 : Hid (KeepW (w.alloc (.cells R.toArray 36)) w2) := Lib.hid (KX1.out.trans (by
    have kb := (Below.refl w1.heap.size w1).alloc (Nat.le_refl _) (.cells #[.int .u32 ((fv : Nat) : Int), .int .u32 ((fl : Nat) : Int)] 22)
    exact (KeepW.below kb).trans kw))
  clear bl gb kw HC1 KA1 BL1 GB1 KW1 KX1 LN1
  clear c3 c4
  have LN2 : Hid ((((([] : List Nat)) ++ ([fk, fs, fd] : List Nat).flatMap fun n => bigL n 1) ++ ([fv, fl] : List Nat).flatMap fun n => bigL n 4).length ≤ 1000000) := Lib.hid (by have := HP.out; simp only [List.length_append, List.flatMap_cons, List.flatMap_nil, big_len, List.length_nil]; have := reqs_len HLOK.out; have := HLL.out; omega)
  obtain ⟨KB2, -, -, -, -, -, c5, c6, c7, -, -, -⟩ := HK.out _ KX2.out
  have KB2' := Lib.hid KB2
  clear KB2
  have HC2 : Hid (Calls Try.prog 39 #[.pointer (some ⟨b, 0, none⟩), .int .i64 1, .slice (some ⟨w2.heap.size, 0, none⟩) 3 3] (w2.alloc (.cells #[.int .i64 ((fn : Nat) : Int), .int .i64 ((fc : Nat) : Int), .int .i64 ((ll : Nat) : Int)] 3)) fun e w' => e = .returned (.tuple #[]) ∧ Bld w' base b ((((([] : List Nat)) ++ ([fk, fs, fd] : List Nat).flatMap fun n => bigL n 1) ++ ([fv, fl] : List Nat).flatMap fun n => bigL n 4) ++ ([fn, fc, ll] : List Nat).flatMap fun n => bigL n 1) ∧ Below base (w2.alloc (.cells #[.int .i64 ((fn : Nat) : Int), .int .i64 ((fc : Nat) : Int), .int .i64 ((ll : Nat) : Int)] 3)) w' ∧ KeepW (w2.alloc (.cells #[.int .i64 ((fn : Nat) : Int), .int .i64 ((fc : Nat) : Int), .int .i64 ((ll : Nat) : Int)] 3)) w') := Lib.hid (by
    have kb := (Below.refl w2.heap.size w2).alloc (Nat.le_refl _) (.cells #[.int .i64 ((fn : Nat) : Int), .int .i64 ((fc : Nat) : Int), .int .i64 ((ll : Nat) : Int)] 3)
    exact w_putI [fn, fc, ll] (((([] : List Nat)) ++ ([fk, fs, fd] : List Nat).flatMap fun n => bigL n 1) ++ ([fv, fl] : List Nat).flatMap fun n => bigL n 4) (some ⟨w2.heap.size, 0, none⟩) 3 1 base b (w2.alloc (.cells #[.int .i64 ((fn : Nat) : Int), .int .i64 ((fc : Nat) : Int), .int .i64 ((ll : Nat) : Int)] 3)) (BL2.out.keep kb) (Nat.le_trans HBS.out (Nat.le_trans GB2.out.size kb.size)) (by decide) (by decide) (by simp) LN2.out (fun n hn => by
      simp only [List.mem_cons, List.not_mem_nil, or_false] at hn
      rcases hn with hn | hn | hn
      · rw [hn]; exact HNf.out.2.2.1.1
      · rw [hn]; exact HNf.out.2.2.1.2
      · rw [hn]; exact (by have := HL40.out; omega)) (fun wx _ hk => sl_var .i64 [fn, fc, ll] (Blk.newAt w2 _ (by first | exact HZ.out | rfl) 3 _ rfl) (by decide) (by decide) hk))
  have KA2 : Hid (Below base w (w2.alloc (.cells #[.int .i64 ((fn : Nat) : Int), .int .i64 ((fc : Nat) : Int), .int .i64 ((ll : Nat) : Int)] 3)) ∧ KeepW w (w2.alloc (.cells #[.int .i64 ((fn : Nat) : Int), .int .i64 ((fc : Nat) : Int), .int .i64 ((ll : Nat) : Int)] 3))) := Lib.hid (by
    have kb := (Below.refl w2.heap.size w2).alloc (Nat.le_refl _) (.cells #[.int .i64 ((fn : Nat) : Int), .int .i64 ((fc : Nat) : Int), .int .i64 ((ll : Nat) : Int)] 3)
    exact ⟨GB2.out.trans (kb.mono (Nat.le_trans HBS.out GB2.out.size)), KW2.out.trans (KeepW.below kb)⟩)
  go_wp2_with (first | (go_skip) | fail)
  refine HC2.out.mono ?_
  rintro e w3 ⟨rfl, bl, gb, kw⟩
  have BL3 := Lib.hid bl
  have GB3 := Lib.hid (KA2.out.1.trans gb)
  have KW3 := Lib.hid (KA2.out.2.trans kw)
  have KX3 : Hid (KeepW (w.alloc (.cells R.toArray 36)) w3) := Lib.hid (KX2.out.trans (by
    have kb := (Below.refl w2.heap.size w2).alloc (Nat.le_refl _) (.cells #[.int .i64 ((fn : Nat) : Int), .int .i64 ((fc : Nat) : Int), .int .i64 ((ll : Nat) : Int)] 3)
    exact (KeepW.below kb).trans kw))
  clear bl gb kw HC2 KA2 BL2 GB2 KW2 KX2 LN2
  clear c5 c6 c7
  have LN3 : Hid (((((([] : List Nat)) ++ ([fk, fs, fd] : List Nat).flatMap fun n => bigL n 1) ++ ([fv, fl] : List Nat).flatMap fun n => bigL n 4) ++ ([fn, fc, ll] : List Nat).flatMap fun n => bigL n 1).length ≤ 1000000) := Lib.hid (by have := HP.out; simp only [List.length_append, List.flatMap_cons, List.flatMap_nil, big_len, List.length_nil]; have := reqs_len HLOK.out; have := HLL.out; omega)
  obtain ⟨KB3, -, -, -, -, -, -, -, c7, -, -, -⟩ := HK.out _ KX3.out
  have KB3' := Lib.hid KB3
  clear KB3
  go_wp2
  clear c7
  go_loopw [35] (fun i wr => ∃ j : Nat, j ≤ ll ∧ i = .int .i64 (j : Int) ∧ Bld wr base b (((((([] : List Nat)) ++ ([fk, fs, fd] : List Nat).flatMap fun n => bigL n 1) ++ ([fv, fl] : List Nat).flatMap fun n => bigL n 4) ++ ([fn, fc, ll] : List Nat).flatMap fun n => bigL n 1) ++ (m.log.take j).flatMap reqE) ∧ Below base w wr ∧ KeepW w wr ∧ KeepW (w.alloc (.cells R.toArray 36)) wr) (fun i _ => ll - (intOf i).toNat)
  case atStart => exact ⟨0, Nat.zero_le _, rfl, by rw [List.take_zero, List.flatMap_nil, List.append_nil]; exact BL3.out, GB3.out, KW3.out, KX3.out⟩
  case round =>
    obtain ⟨j, hj, rfl, bl, gb, kw, kx⟩ := hrel
    have BLJ := Lib.hid bl
    have GBJ := Lib.hid gb
    have KWJ := Lib.hid kw
    have KXJ := Lib.hid kx
    clear bl gb kw kx BL3 GB3 KW3 KX3
    by_cases hlt : j < ll
    · have hlt' : j < m.log.length := by rw [HNN.out.2.2.2.1]; exact hlt
      obtain ⟨x, hx, hxe, hxt⟩ := log_at hlt'
      obtain ⟨a1, Q, rfl, m1, t1, l1, s1⟩ := HLOG.out.at (i := j) (by rw [List.length_map]; exact hlt')
      rw [hxe] at t1
      have hwr := H00.out wr GBJ.out
      obtain ⟨M, hM⟩ : ∃ M, wr.heap.size = M := ⟨_, rfl⟩
      have hq : Q.toArray.all (·.oneCell') = true := by
        obtain ⟨q, e, h⟩ := t1
        obtain ⟨pb, cb, pn, cn, pz, cz, rfl⟩ := h.row
        have e2 := congrArg (fun v => match v with | Value.agg c => c.toList | _ => []) e
        simp at e2
        rw [e2]
        simp [cellsQ, cellsO, cellsV, Value.oneCell']
      have s2 : ∀ i y, Q[i]? = some y → wr.cell? ((a1.add (j * 8)).add i) = some y := fun i y hy => by
        rw [Below.cell hwr (by rw [add_block, add_block]; exact m1)]
        exact s1 i y hy
      have k2 := Blk.newAt wr M hM 40 (c := zQ.toArray) zQ rfl
      have b3 := below_setRow ((Below.refl wr.heap.size wr).alloc (Nat.le_refl _) (.cells zQ.toArray 40)) (show wr.heap.size ≤ M by omega) Q.toArray
      have hbr : base ≤ wr.heap.size := Nat.le_trans HBS.out GBJ.out.size
      have hln : (((((([] : List Nat)) ++ ([fk, fs, fd] : List Nat).flatMap fun n => bigL n 1) ++ ([fv, fl] : List Nat).flatMap fun n => bigL n 4) ++ ([fn, fc, ll] : List Nat).flatMap fun n => bigL n 1) ++ (m.log.take j).flatMap reqE).length ≤ 900000 := by
        have h1 := reqs_take HLOK.out j
        have h2 := HLL.out
        simp only [List.length_append, List.flatMap_cons, List.flatMap_nil, big_len, List.length_nil]
        omega
      obtain ⟨w6, hw6⟩ : ∃ w6, (wr.alloc (.cells zQ.toArray 40)).setRow M Q.toArray = w6 := ⟨_, rfl⟩
      rw [hw6] at b3
      have hb6 : Below w00.heap.size w00 w6 := hwr.trans (b3.mono hwr.size)
      have CA := Lib.hid (w_putReq x (.agg Q.toArray) _ base b w6 (BLJ.out.keep b3) (Nat.le_trans hbr b3.size) hln (t1.below hb6) (fun wx h => t1.below (hb6.trans (h.mono HSZ0.out))) (HLOK.out x hx))
      have d1 : (j : Int) < (ll : Int) := by omega
      have K2 := Lib.hid k2
      have K3 : Hid (Blk w6 M 40 Q) := Lib.hid (by rw [← hw6]; exact k2.row Q (by rw [l1]; rfl))
      have G6 := Lib.hid (GBJ.out.trans (b3.mono hbr))
      have KW6 := Lib.hid (KWJ.out.trans (KeepW.below b3))
      have KX6 := Lib.hid (KXJ.out.trans (KeepW.below b3))
      have HQ8 := Lib.hid l1
      have HQO := Lib.hid hq
      have S2 := Lib.hid s2
      have HM := Lib.hid hM
      have HLT := Lib.hid hlt
      have HXT := Lib.hid hxt
      have HW6 := Lib.hid hw6
      clear m1 t1 l1 s1 s2 hq k2 b3 hb6 hbr hln hwr hx hxe hxt hlt' hM hw6 hlt hj
      go_wp2_with (first | (refine wpList_load_addrV rfl 40 _ rfl (a1.add (j * 8)) rfl Q S2.out Try.underlying40 rfl (by rw [size_req, HQ8.out]) ?_) | (refine wpList_alloc_n rfl 40 rfl M HM.out zQ.toArray (alloc_req _) ?_) | (refine wpList_store_blk rfl 40 _ _ rfl M Q rfl rfl K2.out (by rw [size_req, HQ8.out]) (by rw [HQ8.out]; rfl) HQO.out ?_; rw [HW6.out]) | (refine wpList_load_blkW rfl 40 _ rfl M rfl K3.out Try.underlying40 rfl (by rw [size_req, HQ8.out]) ?_))
      refine CA.out.mono ?_
      rintro e w7 ⟨rfl, bl, gb, kw⟩
      have BL7 : Hid (Bld w7 base b (((((([] : List Nat)) ++ ([fk, fs, fd] : List Nat).flatMap fun n => bigL n 1) ++ ([fv, fl] : List Nat).flatMap fun n => bigL n 4) ++ ([fn, fc, ll] : List Nat).flatMap fun n => bigL n 1) ++ (m.log.take (j + 1)).flatMap reqE)) := Lib.hid (by rw [HXT.out, ← List.append_assoc]; exact bl)
      have G7 := Lib.hid (G6.out.trans gb)
      have KW7 := Lib.hid (KW6.out.trans kw)
      have KX7 := Lib.hid (KX6.out.trans kw)
      clear bl gb kw CA
      go_wp2
      go_roundw
      case rel => exact ⟨j + 1, by have := HLT.out; omega, by go_num, BL7.out, G7.out, KW7.out, KX7.out⟩
      case measure => (have := HLT.out; simp [intOf]; omega)
    · obtain rfl : ll = j := by omega
      obtain ⟨w4, hw4⟩ : ∃ w4, w4 = wr := ⟨_, rfl⟩
      have BL4 : Hid (Bld wr base b (((((([] : List Nat)) ++ ([fk, fs, fd] : List Nat).flatMap fun n => bigL n 1) ++ ([fv, fl] : List Nat).flatMap fun n => bigL n 4) ++ ([fn, fc, ll] : List Nat).flatMap fun n => bigL n 1) ++ m.log.flatMap reqE)) := Lib.hid (by
        have h := BLJ.out
        rw [show m.log.take ll = m.log by rw [← HNN.out.2.2.2.1]; exact List.take_length] at h
        exact h)
      have GB4 := GBJ
      have KW4 := KWJ
      have KX4 := KXJ
      clear hlt hj BLJ GBJ KWJ KXJ
      subst hw4
      have LN4 : Hid ((((((([] : List Nat)) ++ ([fk, fs, fd] : List Nat).flatMap fun n => bigL n 1) ++ ([fv, fl] : List Nat).flatMap fun n => bigL n 4) ++ ([fn, fc, ll] : List Nat).flatMap fun n => bigL n 1) ++ m.log.flatMap reqE).length ≤ 1000000) := Lib.hid (by have := HP.out; simp only [List.length_append, List.flatMap_cons, List.flatMap_nil, big_len, List.length_nil]; have := reqs_len HLOK.out; have := HLL.out; omega)
      obtain ⟨KB4, -, -, -, -, -, -, -, -, c8, -, -⟩ := HK.out _ KX4.out
      have KB4' := Lib.hid KB4
      clear KB4
      have HC4 : Hid (Calls Try.prog 39 #[.pointer (some ⟨b, 0, none⟩), .int .i64 1, .slice (some ⟨w4.heap.size, 0, none⟩) 1 1] (w4.alloc (.cells #[.int .i64 ((fcl : Nat) : Int)] 3)) fun e w' => e = .returned (.tuple #[]) ∧ Bld w' base b ((((((([] : List Nat)) ++ ([fk, fs, fd] : List Nat).flatMap fun n => bigL n 1) ++ ([fv, fl] : List Nat).flatMap fun n => bigL n 4) ++ ([fn, fc, ll] : List Nat).flatMap fun n => bigL n 1) ++ m.log.flatMap reqE) ++ ([fcl] : List Nat).flatMap fun n => bigL n 1) ∧ Below base (w4.alloc (.cells #[.int .i64 ((fcl : Nat) : Int)] 3)) w' ∧ KeepW (w4.alloc (.cells #[.int .i64 ((fcl : Nat) : Int)] 3)) w') := Lib.hid (by
        have kb := (Below.refl w4.heap.size w4).alloc (Nat.le_refl _) (.cells #[.int .i64 ((fcl : Nat) : Int)] 3)
        exact w_putI [fcl] (((((([] : List Nat)) ++ ([fk, fs, fd] : List Nat).flatMap fun n => bigL n 1) ++ ([fv, fl] : List Nat).flatMap fun n => bigL n 4) ++ ([fn, fc, ll] : List Nat).flatMap fun n => bigL n 1) ++ m.log.flatMap reqE) (some ⟨w4.heap.size, 0, none⟩) 1 1 base b (w4.alloc (.cells #[.int .i64 ((fcl : Nat) : Int)] 3)) (BL4.out.keep kb) (Nat.le_trans HBS.out (Nat.le_trans GB4.out.size kb.size)) (by decide) (by decide) (by simp) LN4.out (fun n hn => by simp only [List.mem_cons, List.not_mem_nil, or_false] at hn; rw [hn]; exact HNf.out.2.2.2.1) (fun wx _ hk => sl_var .i64 [fcl] (Blk.newAt w4 _ (by first | exact HZ.out | rfl) 3 _ rfl) (by decide) (by decide) hk))
      have KA4 : Hid (Below base w (w4.alloc (.cells #[.int .i64 ((fcl : Nat) : Int)] 3)) ∧ KeepW w (w4.alloc (.cells #[.int .i64 ((fcl : Nat) : Int)] 3))) := Lib.hid (by
        have kb := (Below.refl w4.heap.size w4).alloc (Nat.le_refl _) (.cells #[.int .i64 ((fcl : Nat) : Int)] 3)
        exact ⟨GB4.out.trans (kb.mono (Nat.le_trans HBS.out GB4.out.size)), KW4.out.trans (KeepW.below kb)⟩)
      go_wp2_with (first | (go_skip) | fail)
      refine HC4.out.mono ?_
      rintro e w5 ⟨rfl, bl, gb, kw⟩
      have BL5 := Lib.hid bl
      have GB5 := Lib.hid (KA4.out.1.trans gb)
      have KW5 := Lib.hid (KA4.out.2.trans kw)
      have KX5 : Hid (KeepW (w.alloc (.cells R.toArray 36)) w5) := Lib.hid (KX4.out.trans (by
        have kb := (Below.refl w4.heap.size w4).alloc (Nat.le_refl _) (.cells #[.int .i64 ((fcl : Nat) : Int)] 3)
        exact (KeepW.below kb).trans kw))
      clear bl gb kw HC4 KA4 BL4 GB4 KW4 KX4 LN4
      clear c8
      have LN5 : Hid (((((((([] : List Nat)) ++ ([fk, fs, fd] : List Nat).flatMap fun n => bigL n 1) ++ ([fv, fl] : List Nat).flatMap fun n => bigL n 4) ++ ([fn, fc, ll] : List Nat).flatMap fun n => bigL n 1) ++ m.log.flatMap reqE) ++ ([fcl] : List Nat).flatMap fun n => bigL n 1).length ≤ 1000000) := Lib.hid (by have := HP.out; simp only [List.length_append, List.flatMap_cons, List.flatMap_nil, big_len, List.length_nil]; have := reqs_len HLOK.out; have := HLL.out; omega)
      obtain ⟨KB5, -, -, -, -, -, -, -, -, -, c9, -⟩ := HK.out _ KX5.out
      have KB5' := Lib.hid KB5
      clear KB5
      have HC5 : Hid (Calls Try.prog 40 #[.pointer (some ⟨b, 0, none⟩), .int .i64 4, .slice (some ⟨w5.heap.size, 0, none⟩) 1 1] (w5.alloc (.cells #[.int .u32 ((fq : Nat) : Int)] 22)) fun e w' => e = .returned (.tuple #[]) ∧ Bld w' base b (((((((([] : List Nat)) ++ ([fk, fs, fd] : List Nat).flatMap fun n => bigL n 1) ++ ([fv, fl] : List Nat).flatMap fun n => bigL n 4) ++ ([fn, fc, ll] : List Nat).flatMap fun n => bigL n 1) ++ m.log.flatMap reqE) ++ ([fcl] : List Nat).flatMap fun n => bigL n 1) ++ ([fq] : List Nat).flatMap fun n => bigL n 4) ∧ Below base (w5.alloc (.cells #[.int .u32 ((fq : Nat) : Int)] 22)) w' ∧ KeepW (w5.alloc (.cells #[.int .u32 ((fq : Nat) : Int)] 22)) w') := Lib.hid (by
        have kb := (Below.refl w5.heap.size w5).alloc (Nat.le_refl _) (.cells #[.int .u32 ((fq : Nat) : Int)] 22)
        exact w_putU [fq] ((((((([] : List Nat)) ++ ([fk, fs, fd] : List Nat).flatMap fun n => bigL n 1) ++ ([fv, fl] : List Nat).flatMap fun n => bigL n 4) ++ ([fn, fc, ll] : List Nat).flatMap fun n => bigL n 1) ++ m.log.flatMap reqE) ++ ([fcl] : List Nat).flatMap fun n => bigL n 1) (some ⟨w5.heap.size, 0, none⟩) 1 4 base b (w5.alloc (.cells #[.int .u32 ((fq : Nat) : Int)] 22)) (BL5.out.keep kb) (Nat.le_trans HBS.out (Nat.le_trans GB5.out.size kb.size)) (by decide) (by decide) (by simp) LN5.out (fun n hn => by simp only [List.mem_cons, List.not_mem_nil, or_false] at hn; rw [hn]; exact HNf.out.2.2.2.2) (fun wx _ hk => sl_var .u32 [fq] (Blk.newAt w5 _ (by first | exact HZ.out | rfl) 22 _ rfl) (by decide) (by decide) hk))
      have KA5 : Hid (Below base w (w5.alloc (.cells #[.int .u32 ((fq : Nat) : Int)] 22)) ∧ KeepW w (w5.alloc (.cells #[.int .u32 ((fq : Nat) : Int)] 22))) := Lib.hid (by
        have kb := (Below.refl w5.heap.size w5).alloc (Nat.le_refl _) (.cells #[.int .u32 ((fq : Nat) : Int)] 22)
        exact ⟨GB5.out.trans (kb.mono (Nat.le_trans HBS.out GB5.out.size)), KW5.out.trans (KeepW.below kb)⟩)
      go_wp2_with (first | (go_skip) | fail)
      refine HC5.out.mono ?_
      rintro e w6 ⟨rfl, bl, gb, kw⟩
      have BL6 := Lib.hid bl
      have GB6 := Lib.hid (KA5.out.1.trans gb)
      have KW6 := Lib.hid (KA5.out.2.trans kw)
      have KX6 : Hid (KeepW (w.alloc (.cells R.toArray 36)) w6) := Lib.hid (KX5.out.trans (by
        have kb := (Below.refl w5.heap.size w5).alloc (Nat.le_refl _) (.cells #[.int .u32 ((fq : Nat) : Int)] 22)
        exact (KeepW.below kb).trans kw))
      clear bl gb kw HC5 KA5 BL5 GB5 KW5 KX5 LN5
      clear c9
      have LN6 : Hid ((((((((([] : List Nat)) ++ ([fk, fs, fd] : List Nat).flatMap fun n => bigL n 1) ++ ([fv, fl] : List Nat).flatMap fun n => bigL n 4) ++ ([fn, fc, ll] : List Nat).flatMap fun n => bigL n 1) ++ m.log.flatMap reqE) ++ ([fcl] : List Nat).flatMap fun n => bigL n 1) ++ ([fq] : List Nat).flatMap fun n => bigL n 4).length ≤ 1000000) := Lib.hid (by have := HP.out; simp only [List.length_append, List.flatMap_cons, List.flatMap_nil, big_len, List.length_nil]; have := reqs_len HLOK.out; have := HLL.out; omega)
      obtain ⟨KB6, -, -, -, -, -, -, -, -, -, -, -⟩ := HK.out _ KX6.out
      have KB6' := Lib.hid KB6
      clear KB6
      have HRA := Lib.hid (HRP.out w6 KB6'.out)
      have HS6 := Lib.hid (w_putRep m.err m.ids m.ver rp (((((((([] : List Nat)) ++ ([fk, fs, fd] : List Nat).flatMap fun n => bigL n 1) ++ ([fv, fl] : List Nat).flatMap fun n => bigL n 4) ++ ([fn, fc, ll] : List Nat).flatMap fun n => bigL n 1) ++ m.log.flatMap reqE) ++ ([fcl] : List Nat).flatMap fun n => bigL n 1) ++ ([fq] : List Nat).flatMap fun n => bigL n 4) base b w00 w6 BL6.out (Nat.le_trans HBS.out GB6.out.size) (by have := reqs_len HLOK.out; have := HLL.out; simp only [List.length_append, List.flatMap_cons, List.flatMap_nil, big_len, List.length_nil]; omega) (H00.out w6 GB6.out) HSZ0.out HRPV.out HER.out.1 HER.out.2.1 HER.out.2.2.1 HER.out.2.2.2)
      go_wp2_with (first | (go_skip) | (refine wpList_load_addrV rfl 32 _ rfl ⟨w.heap.size, 10, none⟩ rfl rp HRA.out Try.underlying32 rfl (by rw [size_rep, HR6.out]) ?_))
      refine HS6.out.mono ?_
      rintro e w7 ⟨rfl, bl, gb, kw⟩
      have BL7 : Hid (Bld w7 base b ((((((((([] : List Nat)) ++ ([fk, fs, fd] : List Nat).flatMap fun n => bigL n 1) ++ ([fv, fl] : List Nat).flatMap fun n => bigL n 4) ++ ([fn, fc, ll] : List Nat).flatMap fun n => bigL n 1) ++ m.log.flatMap reqE) ++ ([fcl] : List Nat).flatMap fun n => bigL n 1) ++ ([fq] : List Nat).flatMap fun n => bigL n 4) ++ (bigL m.err 2 ++ ((bigL m.ids.length 1 ++ m.ids.flatMap fun n => bigL n 4) ++ verE m.ver)))) := Lib.hid bl
      have GB7 := Lib.hid (GB6.out.trans gb)
      have KW7 := Lib.hid (KW6.out.trans kw)
      have KX7 : Hid (KeepW (w.alloc (.cells R.toArray 36)) w7) := Lib.hid (KX6.out.trans kw)
      clear bl gb kw HS6 BL6 GB6 KW6 KX6 LN6
      have LN7 : Hid (((((((((([] : List Nat)) ++ ([fk, fs, fd] : List Nat).flatMap fun n => bigL n 1) ++ ([fv, fl] : List Nat).flatMap fun n => bigL n 4) ++ ([fn, fc, ll] : List Nat).flatMap fun n => bigL n 1) ++ m.log.flatMap reqE) ++ ([fcl] : List Nat).flatMap fun n => bigL n 1) ++ ([fq] : List Nat).flatMap fun n => bigL n 4) ++ (bigL m.err 2 ++ ((bigL m.ids.length 1 ++ m.ids.flatMap fun n => bigL n 4) ++ verE m.ver))).length ≤ 1000000) := Lib.hid (by have := HP.out; simp only [List.length_append, List.flatMap_cons, List.flatMap_nil, big_len, List.length_nil]; have := reqs_len HLOK.out; have := HLL.out; have := HER.out.2.1; have := flat_big_len 4 m.ids; have := (ver_small HER.out.2.2.2).1; omega)
      obtain ⟨KB7, -, -, -, -, -, -, -, -, -, -, -⟩ := HK.out _ KX7.out
      have KB7' := Lib.hid KB7
      clear KB7
      have HWA : Hid (Calls Try.prog 48 #[.pointer (some ⟨b, 0, none⟩), .slice (some ⟨w.heap.size, 16, none⟩) 32 32] w7 fun e w' => e = .returned (.tuple #[.int .i64 32, .nilIface]) ∧ Bld w' base b (((((((((([] : List Nat)) ++ ([fk, fs, fd] : List Nat).flatMap fun n => bigL n 1) ++ ([fv, fl] : List Nat).flatMap fun n => bigL n 4) ++ ([fn, fc, ll] : List Nat).flatMap fun n => bigL n 1) ++ m.log.flatMap reqE) ++ ([fcl] : List Nat).flatMap fun n => bigL n 1) ++ ([fq] : List Nat).flatMap fun n => bigL n 4) ++ (bigL m.err 2 ++ ((bigL m.ids.length 1 ++ m.ids.flatMap fun n => bigL n 4) ++ verE m.ver))) ++ m.hash) ∧ Below base w7 w' ∧ KeepW w7 w') := Lib.hid (by
        have h := b_WriteAt w7 base b ((((((((([] : List Nat)) ++ ([fk, fs, fd] : List Nat).flatMap fun n => bigL n 1) ++ ([fv, fl] : List Nat).flatMap fun n => bigL n 4) ++ ([fn, fc, ll] : List Nat).flatMap fun n => bigL n 1) ++ m.log.flatMap reqE) ++ ([fcl] : List Nat).flatMap fun n => bigL n 1) ++ ([fq] : List Nat).flatMap fun n => bigL n 4) ++ (bigL m.err 2 ++ ((bigL m.ids.length 1 ++ m.ids.flatMap fun n => bigL n 4) ++ verE m.ver))) m.hash w.heap.size 16 32 36 R BL7.out KB7'.out HHX.out (by decide) (by rw [HBK.out.2.2]; decide) (by rw [HBK.out.2.2]; have := LN7.out; omega) (Nat.le_trans HBS.out GB7.out.size)
        rw [HBK.out.2.2] at h
        exact h)
      go_wp2_with (first | (go_skip) | fail)
      refine HWA.out.mono ?_
      rintro e w8 ⟨rfl, bl, gb, kw⟩
      have BL8 := Lib.hid bl
      have GB8 := Lib.hid (GB7.out.trans gb)
      have KW8 := Lib.hid (KW7.out.trans kw)
      have KX8 : Hid (KeepW (w.alloc (.cells R.toArray 36)) w8) := Lib.hid (KX7.out.trans kw)
      clear bl gb kw HWA BL7 GB7 KW7 KX7
      obtain ⟨-, -, -, -, -, -, -, -, -, -, -, c48⟩ := HK.out _ KX8.out
      have htz : Z.size = m.block.length := by rw [← HZB.out, tx_size]
      have hts : sl Z = m.block := by rw [← HZB.out]; exact sl_tx HBK.out.2.1
      have HTX := Lib.hid (v_Text Z w8 (by rw [htz]; have := HBK.out.1; omega))
      rw [htz, hts] at HTX
      have hsx : sl (tx (putL m.block.length ++ m.block)) = putL m.block.length ++ m.block := sl_tx ((put_bys (by have := HBK.out.1; omega)).app HBK.out.2.1)
      have hzx : (tx (putL m.block.length ++ m.block)).size ≤ 1010 := by rw [tx_size, List.length_append]; have := put_len_le m.block.length; have := HBK.out.1; omega
      have HSX := Lib.hid hsx
      have HZX := Lib.hid hzx
      clear htz hts hsx hzx
      generalize tx (putL m.block.length ++ m.block) = SX at *
      go_wp2_with (first | (go_skip) | fail)
      refine HTX.out.mono ?_
      rintro e w9 ⟨rfl, hb9⟩
      have BL9 := Lib.hid (BL8.out.keep hb9)
      have GB9 := Lib.hid (GB8.out.trans (hb9.mono (Nat.le_trans HBS.out GB8.out.size)))
      have KW9 := Lib.hid (KW8.out.trans (KeepW.below hb9))
      clear hb9 c48
      go_wp2_with (first | (go_skip) | fail)
      (with_reducible refine (b_WriteString2 w9 base b _ SX BL9.out (by have := LN7.out; have := HZX.out; have := HBK.out.2.2; rw [List.length_append]; omega) (Nat.le_trans HBS.out GB9.out.size)).mono ?_)
      rintro e w10 ⟨rfl, bl, gb, kw⟩
      have BF : Hid (Bld w10 base b (msgE m)) := Lib.hid (by
        rw [HSX.out] at bl
        have e : msgE m = (((((((((([] : List Nat)) ++ ([fk, fs, fd] : List Nat).flatMap fun n => bigL n 1) ++ ([fv, fl] : List Nat).flatMap fun n => bigL n 4) ++ ([fn, fc, ll] : List Nat).flatMap fun n => bigL n 1) ++ m.log.flatMap reqE) ++ ([fcl] : List Nat).flatMap fun n => bigL n 1) ++ ([fq] : List Nat).flatMap fun n => bigL n 4) ++ (bigL m.err 2 ++ ((bigL m.ids.length 1 ++ m.ids.flatMap fun n => bigL n 4) ++ verE m.ver))) ++ m.hash) ++ (putL m.block.length ++ m.block) := by
          obtain ⟨⟨a1, a2, a3, a4, a5⟩, a6, a7, a8, a9, a10⟩ := HNN.out
          unfold msgE
          rw [a1, a2, a3, a4, a5, a6, a7, a8, a9, a10]
          simp
        rw [e]
        exact bl)
      have GF := Lib.hid (GB9.out.trans gb)
      have KF := Lib.hid (KW9.out.trans kw)
      clear bl gb kw
      go_wp2
      go_end0
      exact ⟨rfl, BF.out, GF.out, KF.out⟩
set_option maxRecDepth 100000 in
set_option maxHeartbeats 4000000 in
theorem w_Enc_yes (m : MsgM) (v : Value) (w : World) (hv : MsgTold w v (msgU m)) (hm : MsgOk m) :
    Calls Try.prog 12 #[v] w fun e w' => e = .returned (.tuple #[.string (tx (msgE m)), .int .i64 0]) ∧ Below w.heap.size w w' := by
  obtain ⟨R, rfl, hRl, -⟩ := msg_cells hv
  have k0 := Blk.new' w 36 (c := R.toArray) R rfl
  have kb := (Below.refl w.heap.size w).alloc (Nat.le_refl _) (.cells R.toArray 36)
  have hbl : m.block.length ≤ 1000 := by
    have qm := hm.2
    unfold msgMay at qm
    simp only [Bool.and_eq_true, decide_eq_true_eq] at qm
    exact qm.2
  have HM := Lib.hid (w_May (msgU m) (.agg R.toArray) true _ (by rw [may_msgU hm.1]; exact hm.2) (hv.below kb) (msgS_of hm.1 (by omega)))
  have K0 := Lib.hid k0
  have KB := Lib.hid kb
  have HRL := Lib.hid hRl
  have HV := Lib.hid hv
  have HR := Lib.hid hm
  have HBY : Hid (Bys (msgE m)) := Lib.hid (msgT_codes.bys m hm.1)
  have HLN : Hid ((msgE m).length ≤ 100000) := Lib.hid (by
    have h1 := reqs_len hm.1.2.2.2.2.2.2.2.1.2
    have h2 := hm.1.2.2.2.2.2.2.2.1.1
    have h3 := hm.1.2.2.2.2.2.2.2.2.2.2.2.1.1
    have h4 := (ver_small hm.1.2.2.2.2.2.2.2.2.2.2.2.2.1).1
    have h5 := hm.1.2.2.2.2.2.2.2.2.2.2.2.2.2.1.1
    have h6 := flat_big_len 4 m.ids
    have h7 := put_len_le m.block.length
    unfold msgE
    simp only [List.length_append, big_len, id]
    omega)
  clear k0 kb hRl hv hm hbl
  go_enter Try.func12, Try.ntmps12
  go_wp2_with (first | (go_skip) | (refine wpList_load_blkW rfl 36 _ rfl w.heap.size rfl K0.out Try.underlying36 rfl (by rw [size_msg, HRL.out]) ?_))
  refine HM.out.mono ?_
  rintro e w2 ⟨rfl, b2⟩
  obtain ⟨N, hN⟩ : ∃ N, w2.heap.size = N := ⟨_, rfl⟩
  have bl0 := Bld.new w2 N (by rw [hN]; exact Nat.le_refl _)
  rw [hN] at bl0
  have bn := (Below.refl w2.heap.size w2).alloc (Nat.le_refl _) (.cells #[.pointer none, .slice none 0 0] 62)
  have b02 := KB.out.trans (b2.mono KB.out.size)
  have b03 := b02.trans (bn.mono b02.size)
  have K3 := Lib.hid ((K0.out.below b2 K0.out.lt).below bn (K0.out.below b2 K0.out.lt).lt)
  have HPR := Lib.hid (w_putMsg m (.agg R.toArray) N N w _ bl0 (by rw [← hN]; exact bn.size) b03 (by rw [← hN]; exact b02.size) HV.out HR.out)
  have B3 := Lib.hid b03
  have HNW : Hid (w.heap.size ≤ N) := Lib.hid (by rw [← hN]; exact b02.size)
  have HN := Lib.hid hN
  clear bl0 bn b02 b03 b2 hN HM
  go_wp2_with (first | (go_skip) | (refine wpList_load_blkW rfl 36 _ rfl w.heap.size rfl K3.out Try.underlying36 rfl (by rw [size_msg, HRL.out]) ?_))
  rw [HN.out]
  refine HPR.out.mono ?_
  rintro e w4 ⟨rfl, bl4, b4, -⟩
  have HST := Lib.hid (b_String w4 N N (msgE m) bl4 HBY.out (by have := HLN.out; omega))
  have B4 := Lib.hid (B3.out.trans (b4.mono HNW.out))
  clear bl4 b4 HPR
  go_wp2_with (first | (go_skip) | fail)
  refine HST.out.mono ?_
  rintro e w5 ⟨rfl, b5⟩
  have B5 := Lib.hid (B4.out.trans (b5.mono HNW.out))
  clear b5
  go_wp2
  go_ret2
  exact ⟨rfl, B5.out⟩
set_option maxRecDepth 100000 in
set_option maxHeartbeats 4000000 in
theorem w_Enc_no (m : MsgU) (v : Value) (w : World) (hb : msgMayR m = false) (hv : MsgTold w v m) (hs : MsgS m) :
    Calls Try.prog 12 #[v] w fun e w' => e = .returned (.tuple #[.string ⟨#[]⟩, .int .i64 1]) ∧ Below w.heap.size w w' := by
  obtain ⟨R, rfl, hRl, -⟩ := msg_cells hv
  have k0 := Blk.new' w 36 (c := R.toArray) R rfl
  have kb := (Below.refl w.heap.size w).alloc (Nat.le_refl _) (.cells R.toArray 36)
  have HM := Lib.hid (w_May m (.agg R.toArray) false _ hb (hv.below kb) hs)
  have K0 := Lib.hid k0
  have KB := Lib.hid kb
  have HRL := Lib.hid hRl
  clear k0 kb hRl hv hb hs
  go_enter Try.func12, Try.ntmps12
  go_wp2_with (first | (go_skip) | (refine wpList_load_blkW rfl 36 _ rfl w.heap.size rfl K0.out Try.underlying36 rfl (by rw [size_msg, HRL.out]) ?_))
  refine HM.out.mono ?_
  rintro e w2 ⟨rfl, b2⟩
  have B2 := Lib.hid (KB.out.trans (b2.mono KB.out.size))
  clear b2
  go_wp2_with (first | (go_skip) | fail)
  go_ret2
  exact ⟨rfl, B2.out⟩
end Go.Proofs.Ytloogjdojojehaa
