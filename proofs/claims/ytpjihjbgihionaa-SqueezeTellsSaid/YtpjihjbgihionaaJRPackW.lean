/- Walk of the reference's Pack, and of the law's theirs. -/
import Derived.Test.YtpjihjbgihionaaJRPack
namespace Go.Proofs.Ytpjihjbgihionaa
open Go.RowKit
set_option linter.unusedVariables false

set_option maxRecDepth 100000 in
set_option maxHeartbeats 1000000 in
theorem r_Pack (l : List (Nat × Int)) (p : Option Addr) (cap : Nat) (w : World) (hl : l.length ≤ 1000000) (hu : ∀ q ∈ l, q.1 < 4294967296) (hS : Sl w 2 (.slice p l.length cap) (rowsP l)) (s : ByteArray) (er : Nat)
    (hE : ((∀ q ∈ l, mayP q) ∧ s = tx (bytesB (bitsP l)) ∧ er = 0) ∨ (¬ (∀ q ∈ l, mayP q) ∧ s = ⟨#[]⟩ ∧ er = 1)) :
    Calls Try.prog 21 #[.slice p l.length cap] w fun e w' => e = .returned (.tuple #[.string s, .int .i64 (er : Int)]) ∧ Below w.heap.size w w' := by
  have HE := Lib.hid hE
  clear hE
  go_enter Try.func21, Try.ntmps21
  go_wp2
  go_loopw [4] (fun i wr => ∃ j : Nat, j ≤ l.length ∧ i = .int .i64 (j : Int) ∧ (∀ q ∈ l.take j, mayP q) ∧ Below w.heap.size w wr) (fun i _ => l.length - (intOf i).toNat)
  case atStart => exact ⟨0, by omega, rfl, (fun q hq => by simp at hq), Below.refl _ _⟩
  case round =>
    obtain ⟨j, hj, rfl, gm, gb⟩ := hrel
    by_cases hlt : j < l.length
    · have hS' := hS.below gb
      obtain ⟨a, rfl, hc⟩ := hS'.row (rowsP_at hlt)
      have hsn := List.take_succ_eq_append_getElem hlt
      have hq := hu _ (List.getElem_mem hlt)
      have hmem := List.getElem_mem hlt
      have HSN := Lib.hid hsn
      have HC := Lib.hid hc
      have HMEM := Lib.hid hmem
      have d1 : (j : Int) < (l.length : Int) := by omega
      have GM := Lib.hid gm
      clear hsn hc hS gm hmem
      generalize l[j] = q at *
      obtain ⟨n, x⟩ := q
      go_wp2_with (first | (refine wpList_load_addr rfl 55 _ rfl _ rfl (rowP (n, x)) HC.out Try.underlying55 rfl (by rw [size_rpiece]; rfl) ?_))
      by_cases hm : mayP (n, x)
      · have HM2 : Hid (∀ q ∈ l.take (j + 1), mayP q) := Lib.hid (by
          rw [HSN.out]
          intro q hq
          rcases List.mem_append.1 hq with h | h
          · exact GM.out q h
          · rw [List.mem_singleton.1 h]; exact hm)
        obtain ⟨k, rfl⟩ : ∃ k : Nat, x = (k : Int) := ⟨x.toNat, by have := hm.1; simp at this; omega⟩
        have hk : k ≤ 24 := by have := hm.2.1; simp at this; omega
        have hnk : n < 2 ^ k := by have := hm.2.2; simpa using this
        have hM : ∀ w, Calls Try.prog 42 #[.agg (rowP (n, (k : Int))).toArray] w fun e w' => e = .returned (.bool true) ∧ Below w.heap.size w w' := fun w => r_may_yes n k w hk hnk
        (with_reducible refine (hM _).mono ?_)
        rintro e w9 ⟨rfl, hb9⟩
        have kb9 := gb.trans (hb9.mono gb.size)
        clear hb9 hnk HC hS' gb hM hm GM
        go_wp2
        go_roundw
        case rel => exact ⟨j + 1, by omega, by go_num, HM2.out, kb9⟩
        case measure => simp [intOf]; omega
      · have hno : ¬ ∀ q ∈ l, mayP q := fun h => hm (h _ HMEM.out)
        obtain ⟨rfl, rfl⟩ : s = ⟨#[]⟩ ∧ er = 1 := by
          rcases HE.out with ⟨h, _⟩ | ⟨_, h⟩
          · exact absurd h hno
          · exact h
        have hM : ∀ w, Calls Try.prog 42 #[.agg (rowP (n, x)).toArray] w fun e w' => e = .returned (.bool false) ∧ Below w.heap.size w w' := fun w => r_may_no n x w hq hm
        (with_reducible refine (hM _).mono ?_)
        rintro e w9 ⟨rfl, hb9⟩
        have kb9 := gb.trans (hb9.mono gb.size)
        clear hb9 HC hS' gb hm hM GM hno HE
        go_wp2
        go_ret2
        exact ⟨rfl, kb9⟩
    · obtain rfl : j = l.length := by omega
      rw [List.take_length] at gm
      obtain ⟨rfl, rfl⟩ : s = tx (bytesB (bitsP l)) ∧ er = 0 := by
        rcases HE.out with ⟨_, h⟩ | ⟨h, _⟩
        · exact h
        · exact absurd gm h
      have hle := bitsP_len gm
      have hsz := sizeP_le l
      have hB := r_Bits l p cap wr hl hu (hS.below gb) gm
      have HB := Lib.hid hB
      have h01 := Lib.hid (bitsP_01 l)
      have hbl : (bitsP l).length ≤ 24000000 := by omega
      clear hB hle hsz gm hu HE hS
      go_wp2_with fail
      (with_reducible refine HB.out.mono ?_)
      rintro e w9 ⟨v, rfl, ho, hb9⟩
      have hY := r_JBytes (bitsP l) v w9 h01.out hbl ho.sl
      have HYY := Lib.hid hY
      have kb9 := gb.trans (hb9.mono gb.size)
      clear hY ho hb9 gb HB
      go_wp2_with fail
      (with_reducible refine HYY.out.mono ?_)
      rintro e w10 ⟨rfl, hb10⟩
      have kb10 := kb9.trans (hb10.mono kb9.size)
      go_wp2
      go_ret2
      exact ⟨rfl, kb10⟩
theorem rowsP_snoc (l : List (Nat × Int)) (j : Nat) (h : j < l.length) : rowsP (l.take (j + 1)) = rowsP (l.take j) ++ [rowP l[j]] := by
  unfold rowsP; rw [List.take_succ_eq_append_getElem h, List.map_append]; rfl
theorem info_rpiece : (Try.prog.info? 55).map (fun i => (i.zero, i.size, i.bytes)) = some (some (.agg #[.int .u32 0, .int .i64 0]), 2, 16) := by kernel_rfl
end Go.Proofs.Ytpjihjbgihionaa
