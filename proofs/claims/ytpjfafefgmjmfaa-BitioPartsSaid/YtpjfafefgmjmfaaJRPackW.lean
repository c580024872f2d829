/- Walk of the reference's Pack, and of the law's theirs. -/
import Derived.Test.YtpjfafefgmjmfaaJRPack
namespace Go.Proofs.Ytpjfafefgmjmfaa
open Go.RowKit
set_option linter.unusedVariables false

set_option maxRecDepth 100000 in
set_option maxHeartbeats 1000000 in
theorem r_Pack (l : List (Nat × Int)) (p : Option Addr) (cap : Nat) (w : World) (hl : l.length ≤ 1000000) (hu : ∀ q ∈ l, q.1 < 4294967296) (hS : Sl w 2 (.slice p l.length cap) (rowsP l)) (s : ByteArray) (er : Nat)
    (hE : ((∀ q ∈ l, mayP q) ∧ s = tx (bytesB (bitsP l)) ∧ er = 0) ∨ (¬ (∀ q ∈ l, mayP q) ∧ s = ⟨#[]⟩ ∧ er = 1)) :
    Calls Try.prog 10 #[.slice p l.length cap] w fun e w' => e = .returned (.tuple #[.string s, .int .i64 (er : Int)]) ∧ Below w.heap.size w w' := by
  have HE := Lib.hid hE
  clear hE
  go_enter Try.func10, Try.ntmps10
  go_wp2
  go_loopw [4] (fun i wr => ∃ j : Nat, j ≤ l.length ∧ i = .int .i64 (j : Int) ∧ (∀ q ∈ l.take j, mayP q) ∧ Below w.heap.size w wr) (fun i _ => l.length - (intOf i).toNat)
  case atStart => exact ⟨0, by omega, rfl, (fun q hq => by simp at hq), Below.refl _ _⟩
  case round =>
    obtain ⟨j, hj, rfl, gm, gb⟩ := hrel
    by_cases hlt : j < l.length
    · have hS' := hS.below gb
      obtain ⟨a, rfl, hc⟩ := hS'.row (rowsP_at hlt)
      have hsn := List.take_succ_eq_append_getElem hlt
      have hq := hu _ (List.getElem_mem hlt)
      have hmem := List.getElem_mem hlt
      have HSN := Lib.hid hsn
      have HC := Lib.hid hc
      have HMEM := Lib.hid hmem
      have d1 : (j : Int) < (l.length : Int) := by omega
      have GM := Lib.hid gm
      clear hsn hc hS gm hmem
      generalize l[j] = q at *
      obtain ⟨n, x⟩ := q
      go_wp2_with (first | (refine wpList_load_addr rfl 54 _ rfl _ rfl (rowP (n, x)) HC.out Try.underlying54 rfl (by rw [size_rpiece]; rfl) ?_))
      by_cases hm : mayP (n, x)
      · have HM2 : Hid (∀ q ∈ l.take (j + 1), mayP q) := Lib.hid (by
          rw [HSN.out]
          intro q hq
          rcases List.mem_append.1 hq with h | h
          · exact GM.out q h
          · rw [List.mem_singleton.1 h]; exact hm)
        obtain ⟨k, rfl⟩ : ∃ k : Nat, x = (k : Int) := ⟨x.toNat, by have := hm.1; simp at this; omega⟩
        have hk : k ≤ 24 := by have := hm.2.1; simp at this; omega
        have hnk : n < 2 ^ k := by have := hm.2.2; simpa using this
        have hM : ∀ w, Calls Try.prog 23 #[.agg (rowP (n, (k : Int))).toArray] w fun e w' => e = .returned (.bool true) ∧ Below w.heap.size w w' := fun w => r_may_yes n k w hk hnk
        (with_reducible refine (hM _).mono ?_)
        rintro e w9 ⟨rfl, hb9⟩
        have kb9 := gb.trans (hb9.mono gb.size)
        clear hb9 hnk HC hS' gb hM hm GM
        go_wp2
        go_roundw
        case rel => exact ⟨j + 1, by omega, by go_num, HM2.out, kb9⟩
        case measure => simp [intOf]; omega
      · have hno : ¬ ∀ q ∈ l, mayP q := fun h => hm (h _ HMEM.out)
        obtain ⟨rfl, rfl⟩ : s = ⟨#[]⟩ ∧ er = 1 := by
          rcases HE.out with ⟨h, _⟩ | ⟨_, h⟩
          · exact absurd h hno
          · exact h
        have hM : ∀ w, Calls Try.prog 23 #[.agg (rowP (n, x)).toArray] w fun e w' => e = .returned (.bool false) ∧ Below w.heap.size w w' := fun w => r_may_no n x w hq hm
        (with_reducible refine (hM _).mono ?_)
        rintro e w9 ⟨rfl, hb9⟩
        have kb9 := gb.trans (hb9.mono gb.size)
        clear hb9 HC hS' gb hm hM GM hno HE
        go_wp2
        go_ret2
        exact ⟨rfl, kb9⟩
    · obtain rfl : j = l.length := by omega
      rw [List.take_length] at gm
      obtain ⟨rfl, rfl⟩ : s = tx (bytesB (bitsP l)) ∧ er = 0 := by
        rcases HE.out with ⟨_, h⟩ | ⟨h, _⟩
        · exact h
        · exact absurd gm h
      have hle := bitsP_len gm
      have hsz := sizeP_le l
      have hB := r_Bits l p cap wr hl hu (hS.below gb) gm
      have HB := Lib.hid hB
      have h01 := Lib.hid (bitsP_01 l)
      have hbl : (bitsP l).length ≤ 24000000 := by omega
      clear hB hle hsz gm hu HE hS
      go_wp2_with fail
      (with_reducible refine HB.out.mono ?_)
      rintro e w9 ⟨v, rfl, ho, hb9⟩
      have hY := r_Bytes (bitsP l) v w9 h01.out hbl ho.sl
      have HYY := Lib.hid hY
      have kb9 := gb.trans (hb9.mono gb.size)
      clear hY ho hb9 gb HB
      go_wp2_with fail
      (with_reducible refine HYY.out.mono ?_)
      rintro e w10 ⟨rfl, hb10⟩
      have kb10 := kb9.trans (hb10.mono kb9.size)
      go_wp2
      go_ret2
      exact ⟨rfl, kb10⟩
def OwnRetR (e : TypeId) (k : Nat) (rows : List (List Value)) (w : World) (r : Ending) (w' : World) : Prop := ∃ v, r = .returned v ∧ OwnR w' w.heap.size e k v rows ∧ Below w.heap.size w w'
theorem rowsP_snoc (l : List (Nat × Int)) (j : Nat) (h : j < l.length) : rowsP (l.take (j + 1)) = rowsP (l.take j) ++ [rowP l[j]] := by
  unfold rowsP; rw [List.take_succ_eq_append_getElem h, List.map_append]; rfl
theorem info_rpiece : (Try.prog.info? 54).map (fun i => (i.zero, i.size, i.bytes)) = some (some (.agg #[.int .u32 0, .int .i64 0]), 2, 16) := by kernel_rfl
theorem info_parts2 {P : Program} {e : TypeId} {z : Value} {k n : Nat} (h : (P.info? e).map (fun i => (i.zero, i.size, i.bytes)) = some (some z, k, n)) : ∃ i, P.info? e = some i ∧ i.zero = some z ∧ i.size = k ∧ i.bytes = n := by
  cases hi : P.info? e with
  | none => rw [hi] at h; cases h
  | some i =>
    rw [hi] at h
    simp only [Option.map_some, Option.some.injEq, Prod.mk.injEq] at h
    exact ⟨i, rfl, h.1, h.2.1, h.2.2⟩
/-- one row in a block of its own, as a slice -/
theorem sl_one {w : World} {b : Nat} {t : TypeId} {r : List Value} (h : Blk w b t r) : Sl w r.length (.slice (some ⟨b, 0, none⟩) 1 1) [r] := by
  refine ⟨fun q hq => by rw [List.mem_singleton.1 hq], _, 1, rfl, fun i q hq => ?_⟩
  have hi : i = 0 := by have := (List.getElem?_eq_some_iff.1 hq).1; simpa using this
  subst hi
  have e : r = q := by simpa using hq
  subst e
  refine ⟨_, rfl, h.lt, fun j x hx => ?_⟩
  rw [Addr.add_mid, h.cell]
  simpa using hx
set_option maxRecDepth 100000 in
set_option maxHeartbeats 1000000 in
theorem l6_theirs (l : List (Nat × Int)) (p : Option Addr) (cap : Nat) (w : World) (hl : l.length ≤ 1000000) (hS : Sl w 2 (.slice p l.length cap) (rowsP l)) :
    Calls Try.prog 11 #[.slice p l.length cap] w (OwnRetR 54 2 (rowsP l) w) := by
  obtain ⟨i0, hi0, hz0, hz1, hz2⟩ := info_parts2 info_rpiece
  have k0 := OwnR.empty w w.heap.size 54 2 (Nat.le_refl _)
  have kb := (Below.refl w.heap.size w).alloc (Nat.le_refl _) (.cells #[] 54)
  have k0 := Lib.hid k0
  have kb := Lib.hid kb
  go_enter Try.func11, Try.ntmps11
  go_wp2
  go_loopw [3, 4] (fun u i wr => ∃ j : Nat, j ≤ l.length ∧ i = .int .i64 (j : Int) ∧ OwnR wr w.heap.size 54 2 u (rowsP (l.take j)) ∧ Below w.heap.size w wr) (fun _ i _ => l.length - (intOf i).toNat)
  case atStart => exact ⟨0, by omega, rfl, k0.out, kb.out⟩
  case round =>
    obtain ⟨j, hj, rfl, go, gb⟩ := hrel
    by_cases hlt : j < l.length
    · have hS' := hS.below gb
      obtain ⟨a, rfl, hc⟩ := hS'.row (rowsP_at hlt)
      have hsn := rowsP_snoc l j hlt
      have HSN := Lib.hid hsn
      have HC := Lib.hid hc
      have d1 : (j : Int) < (l.length : Int) := by omega
      have hrl : (rowsP (l.take j)).length = j := by rw [rowsP_len, List.length_take]; omega
      have HRL := Lib.hid hrl
      clear hsn hc hS k0 kb hrl
      generalize l[j] = q at *
      generalize rowsP (l.take j) = rows at *
      obtain ⟨n, x⟩ := q
      have hcc : ∀ (jj : Nat) (xx : Value), [Value.int .u32 (n : Int), Value.int .i64 x][jj]? = some xx → wr.cell? ((a.add (j * 2)).add jj) = some xx := HC.out
      have HCC := Lib.hid hcc
      have hnb := Blk.new' wr 54 (c := #[.int .u32 (n : Int), .int .i64 x]) (rowP (n, x)) rfl
      have hnews := sl_one hnb
      have hown := go.alloc (.cells #[.int .u32 (n : Int), .int .i64 x] 54)
      have hlo := go.lt
      have hgb := gb.alloc gb.size (.cells #[.int .u32 (n : Int), .int .i64 x] 54)
      have hbase : w.heap.size ≤ (wr.alloc (.cells #[.int .u32 (n : Int), .int .i64 x] 54)).heap.size := hgb.size
      have hone : ∀ r ∈ [rowP (n, x)], ∀ u ∈ r, u.oneCell' = true := by simp [rowP, Value.oneCell']
      have hlen : rows.length + [rowP (n, x)].length ≤ maxLen := by rw [HRL.out, List.length_singleton]; unfold maxLen; omega
      have hby : (rows.length + [rowP (n, x)].length) * 16 ≤ 140737488355328 := by rw [HRL.out, List.length_singleton]; omega
      have HONE := Lib.hid hone
      have HLEN := Lib.hid hlen
      have HBY := Lib.hid hby
      have HOW := Lib.hid hown
      have HNW := Lib.hid hnews
      have HLO := Lib.hid hlo
      have HGB := Lib.hid hgb
      have HBA := Lib.hid hbase
      clear hone hlen hby hcc hnb hnews hown hlo hgb hbase go gb HC
      go_wp2_with (first | (refine wpList_load_addr rfl 45 _ rfl _ rfl [.int .u32 (n : Int), .int .i64 x] HCC.out Try.underlying45 rfl (by rw [size_piece]; rfl) ?_) | (refine wpList_append_rows rfl _ _ 28 rfl w.heap.size 54 i0 (.agg #[.int .u32 0, .int .i64 0]) 2 16 Try.underlying28 hi0 hz0 hz1 hz2 rfl (by decide) _ rows rfl HOW.out (.slice (some ⟨wr.heap.size, 0, none⟩) 1 1) [rowP (n, x)] rfl HNW.out HONE.out HLEN.out HBY.out HBA.out (.inr ⟨_, _, _, rfl⟩) ?_; intro v' w5 ho5 hg5 hv5))
      have gb5 := HGB.out.grown hg5 HBA.out (fun k e => (HLO.out k e).1)
      go_roundw
      case rel => exact ⟨j + 1, by omega, by go_num, by rw [HSN.out]; exact ho5, gb5⟩
      case measure => simp [intOf]; omega
    · obtain rfl : j = l.length := by omega
      rw [List.take_length] at go
      go_wp2
      go_ret
      exact ⟨_, rfl, go, gb⟩
end Go.Proofs.Ytpjfafefgmjmfaa
