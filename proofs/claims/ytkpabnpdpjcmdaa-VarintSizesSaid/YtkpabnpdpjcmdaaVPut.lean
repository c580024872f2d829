/- Walks of varint's sevens, told one by one, and of Put. -/
import Derived.Test.YtkpabnpdpjcmdaaVSmall
import Derived.Test.YtkpabnpdpjcmdaaTill
namespace Go.Proofs.Ytkpabnpdpjcmdaa
open Go.RowKit Go.Shelf
set_option linter.unusedVariables false

attribute [local go_sem] Oper.semAt_some

theorem andNot_u8 (b : Nat) (h : b < 256) : bits .andNot .u8 (b : Int) 128 = ((b % 128 : Nat) : Int) := by
  have h' : ∀ m : Fin 256, bits .andNot .u8 (m.val : Int) 128 = ((m.val % 128 : Nat) : Int) := by decide +kernel
  exact h' ⟨b, h⟩
theorem andNot_u64 (n : Nat) (h : n < 18446744073709551616) : bits .andNot .u64 (n : Int) 128 % 256 = ((n % 128 : Nat) : Int) := by
  have ha : n % 2 ^ IntKind.u64.bits = n := Nat.mod_eq_of_lt h
  have hd : n &&& 18446744073709551487 < 2 ^ 64 := Nat.and_lt_two_pow _ (by decide)
  have he : (n &&& 18446744073709551487) % 2 ^ 8 = n % 128 := by
    rw [Nat.and_mod_two_pow, show 18446744073709551487 % 2 ^ 8 = 2 ^ 7 - 1 by decide, Nat.and_two_pow_sub_one_eq_mod]
    omega
  have hr : bits .andNot .u64 (n : Int) 128 = ((n &&& 18446744073709551487 : Nat) : Int) := by
    have e1 : (BitVec.ofInt IntKind.u64.bits (n : Int)).toNat = n := by
      rw [BitVec.ofInt_natCast, BitVec.toNat_ofNat, ha]
    show IntKind.u64.wrap (((BitVec.ofInt IntKind.u64.bits (n : Int) &&& ~~~(BitVec.ofInt IntKind.u64.bits 128)).toNat : Nat) : Int) = _
    rw [BitVec.toNat_and, e1, show (~~~(BitVec.ofInt IntKind.u64.bits 128)).toNat = 18446744073709551487 by decide]
    exact wraps_u64 _ (by omega) (by omega)
  rw [hr]
  omega
def sevM (l : Value) (x : Value) : Nat := match x with | .bool true => 0 | _ => (intOf l).toNat + 1
set_option maxRecDepth 100000 in
set_option maxHeartbeats 2000000 in
/-- the iterator, for every body that keeps its block -/
theorem v_sev_in (n l Bs m : Nat) (hm : m < 18446744073709551616) (J Jx : List (Fin 128 × Bool) → World → Prop) (hn : 2 ≤ n)
    (hY : ∀ pre x W, J pre W → pre.length < 10 → YieldAt Fence.wide (n - 1) Try.prog l #[.int .u8 ((x : Fin 128 × Bool).1.val : Int), .bool x.2] W fun e W' =>
      (e = .returned (.bool true) ∧ J (pre ++ [x]) W' ∧ (∀ o, W.heap[Bs]? = some o → W'.heap[Bs]? = some o)) ∨ (e = .returned (.bool false) ∧ Jx (pre ++ [x]) W'))
    (W : World) (hB : Blk W Bs 22 [.int .u64 (m : Int)]) (h0 : J [] W) :
    CallsIn Fence.wide n Try.prog 25 #[.func (.yield l) #[] #[], .pointer (some ⟨Bs, 0, none⟩)] W fun e W' => (∃ v, e = .returned v) ∧
      ((∃ ys, ys = sevL m ∧ J ys W') ∨ (∃ pre, True ∧ Jx pre W')) := by
  have c1 := hB.cell 0
  simp only [List.getElem?_cons_zero] at c1
  refine callsIn_of_wp Try.func25 rfl trivial ?_ rfl
  simp only [Try.ntmps25, List.size_toArray, List.length_cons, List.length_nil, Nat.reduceAdd, Nat.reduceSub, Array.replicate_succ, Array.replicate_zero, List.push_toArray, List.append_toArray, List.nil_append, List.cons_append]
  gi_wp2
  clear c1
  gi_loopw [3, 4] (fun u v wr => ∃ (L : Nat) (pre : List (Fin 128 × Bool)), u = .int .u64 (L : Int) ∧ L < 18446744073709551616 ∧ J pre wr ∧ Blk wr Bs 22 [.int .u64 (m : Int)] ∧
      ((v = .bool true ∧ sevL m = pre) ∨ (v = .bool false ∧ ∃ f, sevL m = pre ++ sevF (f + 1) L ∧ pre.length + (f + 1) = 10 ∧ L < 128 ^ (f + 1)))) (fun u v _ => sevM u v)
  case atStart => exact ⟨m, [], rfl, hm, h0, hB, .inr ⟨rfl, 9, rfl, rfl, lt_128_10 hm⟩⟩
  case round =>
    obtain ⟨L, pre, rfl, hL, hJ, hb, ⟨rfl, hE⟩ | ⟨rfl, f, hE, hl, hLf⟩⟩ := hrel
    · gi_wp2
      go_end0
      exact ⟨⟨_, rfl⟩, .inl ⟨_, hE.symm, hJ⟩⟩
    · have hx := andNot_u64 L hL
      by_cases h : L < 128
      · have hs := sevF_small f L h
        have g1 : decide ((L : Int) < 128) = true := by simp; omega
        obtain ⟨fn, tmps, assign, body, hy, hR⟩ := hY pre (⟨L, h⟩, true) wr hJ (by omega)
        dsimp only at hy
        rw [show L % 128 = L by omega] at hx
        gi_wp2
        first | refine hR.mono ?_ | refine ⟨fun _ => by omega, hR.mono ?_⟩
        rintro e W3 (⟨rfl, hJ3, hk3⟩ | ⟨rfl, hJx3⟩)
        · gi_wp2
          go_roundw
          case rel => exact ⟨L / 128, _, by go_num, by omega, hJ3, hk3 _ hb, .inl ⟨rfl, by rw [hE, hs]⟩⟩
          case measure => simp [sevM, intOf]
        · gi_wp2
          refine bodyPost_ret (results_none rfl _ _ _) rfl ?_
          exact ⟨⟨_, rfl⟩, .inr ⟨_, trivial, hJx3⟩⟩
      · have h0 : 0 < f := by
          rcases Nat.eq_zero_or_pos f with rfl | h'
          · simp at hLf; omega
          · exact h'
        obtain ⟨f, rfl⟩ : ∃ g, f = g + 1 := ⟨f - 1, by omega⟩
        have hs := sevF_big (f + 1) L h
        have hp : L / 128 < 128 ^ (f + 1) := by rw [Nat.pow_succ] at hLf; omega
        have g1 : decide ((L : Int) < 128) = false := by simp; omega
        obtain ⟨r, hr⟩ : ∃ r : Fin 128, (⟨L % 128, Nat.mod_lt _ (by decide)⟩ : Fin 128) = r := ⟨_, rfl⟩
        have hxr : bits .andNot .u64 (L : Int) 128 % 256 = (r.val : Int) := by rw [hx, ← hr]
        rw [hr] at hs
        obtain ⟨fn, tmps, assign, body, hy, hR⟩ := hY pre (r, false) wr hJ (by omega)
        dsimp only at hy
        clear hLf hx hr
        gi_wp2
        first | refine hR.mono ?_ | refine ⟨fun _ => by omega, hR.mono ?_⟩
        rintro e W3 (⟨rfl, hJ3, hk3⟩ | ⟨rfl, hJx3⟩)
        · gi_wp2
          go_roundw
          case rel => exact ⟨L / 128, _, by go_num, by omega, hJ3, hk3 _ hb, .inr ⟨rfl, f, by rw [hE, hs, List.append_assoc]; rfl, by simp; omega, hp⟩⟩
          case measure => simp [sevM, intOf]; omega
        · gi_wp2
          refine bodyPost_ret (results_none rfl _ _ _) rfl ?_
          exact ⟨⟨_, rfl⟩, .inr ⟨_, trivial, hJx3⟩⟩
theorem v_stops (n Bs m : Nat) (hm : m < 18446744073709551616) (hn : 2 ≤ n) (w : World) (hB : Blk w Bs 22 [.int .u64 (m : Int)]) :
    SeqStopsK Fence.wide n Try.prog 25 #[.pointer (some ⟨Bs, 0, none⟩)] (fun x : Fin 128 × Bool => #[Value.int .u8 (x.1.val : Int), Value.bool x.2]) (fun A B => ∀ o, A.heap[Bs]? = some o → B.heap[Bs]? = some o) (fun ys => ys = sevL m) (fun _ => True) 10 w := fun l J Jx W hW _ _ hY h0 =>
  v_sev_in n l Bs m hm J Jx hn hY W (hB.below hW hB.lt) h0
end Go.Proofs.Ytkpabnpdpjcmdaa
