/- Walk of the reference's Put. -/
import Derived.Test.YtkpabnpdpjcmdaaVGet
import Derived.Test.YtkpabnpdpjcmdaaFree
namespace Go.Proofs.Ytkpabnpdpjcmdaa
open Go.RowKit Go.Shelf
set_option linter.unusedVariables false

theorem put_app (n : Nat) (f : Nat) (h : ¬ n < 128) : tx (putF (f + 1) n) = tx [n % 128 + 128] ++ tx (putF f (n / 128)) := by
  rw [putF_big _ _ h, ← tx_app]; rfl
theorem putF_len_small (f n : Nat) : (tx (putF f n)).size ≤ f := by rw [tx_size]; exact putF_len_le f n
set_option maxRecDepth 100000 in
set_option maxHeartbeats 400000 in
theorem r_put_small (f n : Nat) (w : World) (h : n < 128) :
    Calls Try.prog 16 #[.int .u64 (n : Int)] w fun e w' => e = .returned (.string (tx (putF (f + 1) n))) ∧ Below w.heap.size w w' := by
  rw [putF_small f n h]
  have d1 : decide ((n : Int) < 128) = true := by simp; omega
  have d2 : (n : Int) % 256 = (n : Int) := by omega
  have hb : Blk (w.alloc (.cells #[.int .u8 (n : Int)] 5)) w.heap.size 5 (ints .u8 (nn [n])) := Blk.new' w 5 (ints .u8 (nn [n])) rfl
  go_enter Try.func16, Try.ntmps16
  go_wp2_with (refine wpList_bytes_string rfl 37 9 5 _ rfl w.heap.size 1 1 (nn [n]) rfl Try.underlying37 Try.underlying5 Try.underlying9 hb.whole rfl ?_)
  go_ret
  exact ⟨rfl, (Below.refl _ _).alloc (Nat.le_refl _) _⟩
def rpF (n : Nat) (u : Nat → Value) : Array Value := #[.int .u64 (n : Int), undef, u 10, .int .u64 (n : Int), .bool false, undef, undef, undef, undef, u 0, u 1, u 2, u 3, u 4, u 5, u 6, u 7, u 8, u 9]
def rpS (B n m q : Nat) (t r z : ByteArray) : Nat → Value → World → Prop
  | 0, v, _ => v = .int .u64 (n : Int)
  | 1, v, _ => v = .int .u64 (m : Int)
  | 2, v, _ => v = .int .u8 (m : Int)
  | 3, v, _ => v = .int .u8 ((m : Int) + 128)
  | 4, v, W => ∃ b, B ≤ b ∧ v = .slice (some ⟨b, 0, none⟩) 1 1 ∧ Blk W b 5 (ints .u8 [(m : Int) + 128])
  | 5, v, _ => v = .string t
  | 6, v, _ => v = .int .u64 (n : Int)
  | 7, v, _ => v = .int .u64 (q : Int)
  | 8, v, _ => v = .string r
  | 9, v, _ => v = .string z
  | 10, v, _ => v = .string z
  | _, _, _ => True
set_option maxRecDepth 100000 in
set_option maxHeartbeats 1000000 in
theorem r_put_big (f n : Nat) (w : World) (h : ¬ n < 128) (hn : n < 18446744073709551616) (hf : f ≤ 10)
    (ih : ∀ w, Calls Try.prog 16 #[.int .u64 ((n / 128 : Nat) : Int)] w fun e w' => e = .returned (.string (tx (putF f (n / 128)))) ∧ Below w.heap.size w w') :
    Calls Try.prog 16 #[.int .u64 (n : Int)] w fun e w' => e = .returned (.string (tx (putF (f + 1) n))) ∧ Below w.heap.size w w' := by
  rw [put_app n f h]
  have hz := putF_len_small f (n / 128)
  generalize tx (putF f (n / 128)) = r at *
  obtain ⟨m, hm, hm1⟩ : ∃ m : Nat, n % 128 = m ∧ m < 128 := ⟨_, rfl, Nat.mod_lt _ (by decide)⟩
  obtain ⟨q, hq⟩ : ∃ q : Nat, n / 128 = q := ⟨_, rfl⟩
  have e1 : (n : Int) % 128 = (m : Int) := by omega
  have e2 : (n : Int) / 128 = (q : Int) := by omega
  have e3 : (m : Int) % 256 = (m : Int) := by omega
  rw [hm]
  rw [hq] at ih
  have hadd : ∀ w, (Op.stringOp .add (tx [m + 128]) r).run Try.prog w = .ok (.string (tx [m + 128] ++ r)) w := fun w => run_string_add_sum _ _ _ (by rw [tx_size]; simp; omega)
  have hbs : bs [(m : Int) + 128] = tx [m + 128] := rfl
  have HBS := Lib.hid hbs
  generalize hzz : tx [m + 128] ++ r = z at *
  generalize tx [m + 128] = t at *
  have HI := Lib.hid ih
  have d1 : decide ((n : Int) < 128) = false := by simp; omega
  clear ih hzz hm hq hbs
  go_enter Try.func16, Try.ntmps16
  go_wp2
  refine region_free mixed (by kernel_rfl) (rpF n) [] (fun i => if i = 10 then .string ⟨#[]⟩ else undef) rfl (NewBut w) (show Below _ _ _ from (Below.refl _ _).drew) (rpS w.heap.size n m q t r z) ?mono ?step ?end_
  case mono =>
    intro i v W W' hv hC hC' hb
    match i with
    | 0 | 1 | 2 | 3 | 5 | 6 | 7 | 8 | 9 | 10 => exact hv
    | 4 =>
      obtain ⟨b, h1, h2, h3⟩ := hv
      exact ⟨b, h1, h2, h3.below hb h3.lt⟩
    | _ + 11 => trivial
  case step =>
    intro u W i o ho hC hd
    have hr := Below.refl W.heap.size W
    rcases i with _ | _ | _ | _ | _ | _ | _ | _ | _ | _ | _ | i
    all_goals try (simp only [List.getElem?_cons_zero, List.getElem?_cons_succ, Option.some.injEq] at ho; subst ho)
    · unfold rpF; go_wp2_with fail
      exact ⟨_, rfl, rfl, hC, hr⟩
    · have h0 : u 0 = _ := hd ⟨0, .data⟩ (by simp) rfl
      unfold rpF; go_wp2_with fail
      exact ⟨_, by simp [upd, h0], rfl, hC, hr⟩
    · have h1 : u 1 = _ := hd ⟨1, .data⟩ (by simp) rfl
      unfold rpF; go_wp2_with fail
      exact ⟨_, by simp [upd, h1], rfl, hC, hr⟩
    · have h2 : u 2 = _ := hd ⟨2, .data⟩ (by simp) rfl
      unfold rpF; go_wp2_with fail
      exact ⟨_, by simp [upd, h2], rfl, hC, hr⟩
    · have h3 : u 3 = _ := hd ⟨3, .data⟩ (by simp) rfl
      unfold rpF; go_wp2_with fail
      have hz := hC.size
      exact ⟨_, by simp [upd, h3], ⟨W.heap.size, hz, rfl, Blk.new' W 5 (ints .u8 [(m : Int) + 128]) rfl⟩, Below.alloc hC hz _, hr.alloc (Nat.le_refl _) _⟩
    · obtain ⟨b, q1, h4, q3⟩ : ∃ b, w.heap.size ≤ b ∧ u 4 = .slice (some ⟨b, 0, none⟩) 1 1 ∧ Blk W b 5 (ints .u8 [(m : Int) + 128]) := hd ⟨4, .data⟩ (by simp) rfl
      unfold rpF; go_wp2_with (refine wpList_bytes_string rfl 37 9 5 _ rfl b 1 1 [(m : Int) + 128] h4 Try.underlying37 Try.underlying5 Try.underlying9 q3.whole rfl ?_)
      exact ⟨_, by simp [upd, h4, HBS.out], rfl, hC, hr⟩
    · unfold rpF; go_wp2_with fail
      exact ⟨_, rfl, rfl, hC, hr⟩
    · have h6 : u 6 = _ := hd ⟨6, .data⟩ (by simp) rfl
      unfold rpF; go_wp2_with fail
      exact ⟨_, by simp [upd, h6], rfl, hC, hr⟩
    · have h7 : u 7 = _ := hd ⟨7, .data⟩ (by simp) rfl
      unfold rpF; go_wp2_with ((with_reducible refine (HI.out _).mono ?_); rintro e w5 ⟨rfl, hb5⟩)
      exact ⟨_, by simp [upd, h7], rfl, hC.trans (hb5.mono hC.size), hb5⟩
    · have h5 : u 5 = _ := hd ⟨5, .data⟩ (by simp) rfl
      have h8 : u 8 = _ := hd ⟨8, .data⟩ (by simp) rfl
      unfold rpF; go_wp2_with fail
      exact ⟨_, by simp [upd, h5, h8], rfl, hC, hr⟩
    · have h9 : u 9 = _ := hd ⟨9, .data⟩ (by simp) rfl
      unfold rpF; go_wp2_with fail
      exact ⟨_, by simp [upd, h9], rfl, hC, hr⟩
    · simp at ho
  case end_ =>
    intro u W hC hS
    have h10 : u 10 = .string z := hS 10 (by decide)
    unfold rpF
    go_wp2
    go_ret
    exact ⟨by show Ending.returned (u 10) = _; rw [h10], hC⟩
theorem r_putF : ∀ (f n : Nat), n < 128 ^ f → n < 18446744073709551616 → 0 < f → f ≤ 10 → ∀ w, Calls Try.prog 16 #[.int .u64 (n : Int)] w fun e w' => e = .returned (.string (tx (putF f n))) ∧ Below w.heap.size w w'
  | 0, _, _, _, h, _ => by omega
  | f + 1, n, hn, h64, _, hf => fun w => by
    by_cases h : n < 128
    · exact r_put_small f n w h
    · have h0 : 0 < f := by
        rcases Nat.eq_zero_or_pos f with rfl | h'
        · simp at hn; omega
        · exact h'
      exact r_put_big f n w h h64 (by omega) (r_putF f (n / 128) (by rw [Nat.pow_succ] at hn; omega) (by omega) h0 (by omega))
theorem r_VPut (n : Nat) (w : World) (hn : n < 18446744073709551616) :
    Calls Try.prog 16 #[.int .u64 (n : Int)] w fun e w' => e = .returned (.string (tx (putL n))) ∧ Below w.heap.size w w' :=
  r_putF 10 n (lt_128_10 hn) hn (by omega) (by omega) w
end Go.Proofs.Ytkpabnpdpjcmdaa
