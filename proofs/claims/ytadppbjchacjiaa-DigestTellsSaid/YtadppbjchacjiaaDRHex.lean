/- Walk of the reference's Hex. -/
import Derived.Test.YtadppbjchacjiaaDRefA
namespace Go.Proofs.Ytadppbjchacjiaa
open Go.RowKit
set_option linter.unusedVariables false

theorem digs_cut (a : Nat) (h : a < 16) : (ByteArray.mk #[48, 49, 50, 51, 52, 53, 54, 55, 56, 57, 97, 98, 99, 100, 101, 102]).extract a (a + 1) = bs [hexDigit (a : Int)] := by
  have h' : ∀ m : Fin 16, ((ByteArray.mk #[48, 49, 50, 51, 52, 53, 54, 55, 56, 57, 97, 98, 99, 100, 101, 102]).extract m.val (m.val + 1)).data = (bs [hexDigit (m.val : Int)]).data := by decide +kernel
  exact ByteArray.ext (h' ⟨a, h⟩)
set_option maxHeartbeats 1000000 in
set_option maxRecDepth 100000 in
theorem r_Hex (h : List Int) (w : World) (hh : h.length = 32) (ho : Octets h) :
    Calls Try.prog 16 #[.agg (ints .u8 h).toArray] w fun e w' => e = .returned (.string (bs (hexT h 32))) ∧ Below w.heap.size w w' := by
  have HH := Lib.hid hh
  have HO := Lib.hid ho
  clear hh ho
  have hk := Blk.new w 23 (ints .u8 h)
  have hb : Below w.heap.size w (w.alloc (.cells (ints .u8 h).toArray 23)) := (Below.refl _ _).alloc (Nat.le_refl _) _
  go_enter Try.func16, Try.ntmps16
  go_wp2
  generalize World.alloc w _ = w2 at *
  go_loopw [3, 4] (fun v i wr => ∃ k : Nat, k ≤ 32 ∧ i = .int .i64 k ∧ v = .string (bs (hexT h k)) ∧ Blk wr w.heap.size 23 (ints .u8 h) ∧ Below w.heap.size w wr) (fun _ i _ => 32 - (intOf i).toNat)
  case atStart => exact ⟨0, by omega, rfl, rfl, hk, hb⟩
  case round =>
    obtain ⟨k, hk32, rfl, rfl, hg, hbel⟩ := hrel
    clear hk hb
    by_cases hlt : k < 32
    · have hc := hg.int (j := k) (by rw [HH.out]; omega)
      have hoct : 0 ≤ h.getD k 0 ∧ h.getD k 0 < 256 := by
        refine HO.out _ ?_
        rw [List.getD_eq_getElem?_getD, List.getElem?_eq_getElem (by rw [HH.out]; omega)]
        exact List.getElem_mem _
      have hstep : hexT h (k + 1) = hexT h k ++ [hexDigit (h.getD k 0 / 16), hexDigit (h.getD k 0 % 16)] := rfl
      have hlen := hexT_len h k
      obtain ⟨x, hx⟩ : ∃ x : Nat, h.getD k 0 = (x : Int) := ⟨(h.getD k 0).toNat, by omega⟩
      rw [hx] at hc hstep hoct
      clear hx
      obtain ⟨a, ha, ha16⟩ : ∃ a : Nat, (x : Int) / 16 = (a : Int) ∧ a < 16 := ⟨x / 16, by omega, by omega⟩
      obtain ⟨b, hbb, hb16⟩ : ∃ b : Nat, (x : Int) % 16 = (b : Int) ∧ b < 16 := ⟨x % 16, by omega, by omega⟩
      have h15 : bits .and .u8 (x : Int) 15 = (b : Int) := by rw [u8_and15 _ hoct.1 hoct.2, hbb]
      rw [ha, hbb] at hstep
      have c1 := digs_cut a ha16
      have c2 := digs_cut b hb16
      have hs2 : bs (hexT h (k + 1)) = bs (hexT h k) ++ bs [hexDigit (a : Int)] ++ bs [hexDigit (b : Int)] := by
        rw [hstep, ← bs_app, ← bs_app, List.append_assoc]; rfl
      have z1 : (bs (hexT h k)).size = 2 * k := by rw [bs_size, hlen]
      have a1 : ∀ w, (Op.stringOp .add (bs (hexT h k)) (bs [hexDigit (a : Int)])).run Try.prog w = .ok (.string (bs (hexT h k) ++ bs [hexDigit (a : Int)])) w := fun w => run_string_add_sum _ _ _ (by rw [z1, bs_size]; simp; omega)
      have a2 : ∀ w, (Op.stringOp .add (bs (hexT h k) ++ bs [hexDigit (a : Int)]) (bs [hexDigit (b : Int)])).run Try.prog w = .ok (.string (bs (hexT h k) ++ bs [hexDigit (a : Int)] ++ bs [hexDigit (b : Int)])) w := fun w => run_string_add_sum _ _ _ (by rw [ByteArray.size_append, z1, bs_size, bs_size]; simp; omega)
      rw [← hs2] at a2
      have e1 : IntKind.u8.wrap ((a : Int) + 1) = (a : Int) + 1 := wraps_u8 _ (by omega) (by omega)
      have e2 : IntKind.u8.wrap ((b : Int) + 1) = (b : Int) + 1 := wraps_u8 _ (by omega) (by omega)
      have e3 : ((a : Int) + 1).toNat = a + 1 := by omega
      have e4 : ((b : Int) + 1).toNat = b + 1 := by omega
      have f1 : (a : Int) + 1 ≤ 16 := by omega
      have f2 : (b : Int) + 1 ≤ 16 := by omega
      have f3 : (0 : Int) ≤ (a : Int) + 1 := by omega
      have f4 : (0 : Int) ≤ (b : Int) + 1 := by omega
      have d1 : (k : Int) < 32 := by omega
      clear hstep hlen hs2 z1 hbb hoct
      generalize hT1 : bs (hexT h (k + 1)) = T1 at *
      have HT1 := Lib.hid hT1
      clear hT1
      generalize bs (hexT h k) ++ bs [hexDigit (a : Int)] = M1 at *
      generalize bs (hexT h k) = T0 at *
      generalize bs [hexDigit (a : Int)] = A1 at *
      generalize bs [hexDigit (b : Int)] = B1 at *
      go_wp2
      refine region_drew_tail 23 mixed (by kernel_rfl) ?_
      simp only [List.take_succ_cons, List.take_zero, List.drop_succ_cons, List.drop_zero]
      repeat (first | go_big_quiet_step (fail) | quiet_step (fail))
      refine wpQuiet_nil ?_
      rintro _ ⟨nq, rfl⟩
      have hg2 := hg.drewN nq
      have hb2 := below_drewN hbel nq
      clear e1 e2
      go_wp2
      go_roundw
      case rel => exact ⟨k + 1, by omega, by go_num, by rw [HT1.out], hg2, hb2⟩
      case measure => simp [intOf]; omega
    · obtain rfl : k = 32 := by omega
      go_wp2
      go_ret
      exact ⟨rfl, hbel⟩
end Go.Proofs.Ytadppbjchacjiaa
