/- Walk of the reference's Put. -/
import Derived.Test.YtahfjfhiejhddaaV1
import Derived.Test.YtahfjfhiejhddaaG1
import Derived.Maps.AppendAt
namespace Go.Proofs.Ytahfjfhiejhddaa
open Go.RowKit Go.Shelf
set_option linter.unusedVariables false

theorem put_app (n : Nat) (f : Nat) (h : ¬ n < 128) : tx (putF (f + 1) n) = tx [n % 128 + 128] ++ tx (putF f (n / 128)) := by
  rw [putF_big _ _ h, ← tx_app]; rfl
theorem putF_len_small (f n : Nat) : (tx (putF f n)).size ≤ f := by rw [tx_size]; exact putF_len_le f n
set_option maxRecDepth 100000 in
set_option maxHeartbeats 400000 in
theorem r_put_small (f n : Nat) (w : World) (h : n < 128) :
    Calls Try.prog 30 #[.int .u64 (n : Int)] w fun e w' => e = .returned (.string (tx (putF (f + 1) n))) ∧ Below w.heap.size w w' := by
  rw [putF_small f n h]
  have d1 : decide ((n : Int) < 128) = true := by simp; omega
  have d2 : (n : Int) % 256 = (n : Int) := by omega
  have hb : Blk (w.alloc (.cells #[.int .u8 (n : Int)] 5)) w.heap.size 5 (ints .u8 (nn [n])) := Blk.new' w 5 (ints .u8 (nn [n])) rfl
  go_enter Try.func30, Try.ntmps30
  go_wp2_with (refine wpList_bytes_string rfl 45 9 5 _ rfl w.heap.size 1 1 (nn [n]) rfl Try.underlying45 Try.underlying5 Try.underlying9 hb.whole rfl ?_)
  go_ret
  exact ⟨rfl, (Below.refl _ _).alloc (Nat.le_refl _) _⟩
def rpF (n : Nat) (u : Nat → Value) : Array Value := #[.int .u64 (n : Int), undef, u 10, .int .u64 (n : Int), .bool false, undef, undef, undef, undef, u 0, u 1, u 2, u 3, u 4, u 5, u 6, u 7, u 8, u 9]
def rpS (B n m q : Nat) (t r z : ByteArray) : Nat → Value → World → Prop
  | 0, v, _ => v = .int .u64 (n : Int)
  | 1, v, _ => v = .int .u64 (m : Int)
  | 2, v, _ => v = .int .u8 (m : Int)
  | 3, v, _ => v = .int .u8 ((m : Int) + 128)
  | 4, v, W => ∃ b, B ≤ b ∧ v = .slice (some ⟨b, 0, none⟩) 1 1 ∧ Blk W b 5 (ints .u8 [(m : Int) + 128])
  | 5, v, _ => v = .string t
  | 6, v, _ => v = .int .u64 (n : Int)
  | 7, v, _ => v = .int .u64 (q : Int)
  | 8, v, _ => v = .string r
  | 9, v, _ => v = .string z
  | 10, v, _ => v = .string z
  | _, _, _ => True
set_option maxRecDepth 100000 in
set_option maxHeartbeats 1000000 in
theorem r_put_big (f n : Nat) (w : World) (h : ¬ n < 128) (hn : n < 18446744073709551616) (hf : f ≤ 10)
    (ih : ∀ w, Calls Try.prog 30 #[.int .u64 ((n / 128 : Nat) : Int)] w fun e w' => e = .returned (.string (tx (putF f (n / 128)))) ∧ Below w.heap.size w w') :
    Calls Try.prog 30 #[.int .u64 (n : Int)] w fun e w' => e = .returned (.string (tx (putF (f + 1) n))) ∧ Below w.heap.size w w' := by
  rw [put_app n f h]
  have hz := putF_len_small f (n / 128)
  generalize tx (putF f (n / 128)) = r at *
  obtain ⟨m, hm, hm1⟩ : ∃ m : Nat, n % 128 = m ∧ m < 128 := ⟨_, rfl, Nat.mod_lt _ (by decide)⟩
  obtain ⟨q, hq⟩ : ∃ q : Nat, n / 128 = q := ⟨_, rfl⟩
  have e1 : (n : Int) % 128 = (m : Int) := by omega
  have e2 : (n : Int) / 128 = (q : Int) := by omega
  have e3 : (m : Int) % 256 = (m : Int) := by omega
  rw [hm]
  rw [hq] at ih
  have hadd : ∀ w, (Op.stringOp .add (tx [m + 128]) r).run Try.prog w = .ok (.string (tx [m + 128] ++ r)) w := fun w => run_string_add_sum _ _ _ (by rw [tx_size]; simp; omega)
  have hbs : bs [(m : Int) + 128] = tx [m + 128] := rfl
  have HBS := Lib.hid hbs
  generalize hzz : tx [m + 128] ++ r = z at *
  generalize tx [m + 128] = t at *
  have HI := Lib.hid ih
  have d1 : decide ((n : Int) < 128) = false := by simp; omega
  clear ih hzz hm hq hbs
  go_enter Try.func30, Try.ntmps30
  go_wp2
  refine region_free mixed (by kernel_rfl) (rpF n) [] (fun i => if i = 10 then .string ⟨#[]⟩ else undef) rfl (NewBut w) (show Below _ _ _ from (Below.refl _ _).drew) (rpS w.heap.size n m q t r z) ?mono ?step ?end_
  case mono =>
    intro i v W W' hv hC hC' hb
    match i with
    | 0 | 1 | 2 | 3 | 5 | 6 | 7 | 8 | 9 | 10 => exact hv
    | 4 =>
      obtain ⟨b, h1, h2, h3⟩ := hv
      exact ⟨b, h1, h2, h3.below hb h3.lt⟩
    | _ + 11 => trivial
  case step =>
    intro u W i o ho hC hd
    have hr := Below.refl W.heap.size W
    rcases i with _ | _ | _ | _ | _ | _ | _ | _ | _ | _ | _ | i
    all_goals try (simp only [List.getElem?_cons_zero, List.getElem?_cons_succ, Option.some.injEq] at ho; subst ho)
    · unfold rpF; go_wp2_with fail
      exact ⟨_, rfl, rfl, hC, hr⟩
    · have h0 : u 0 = _ := hd ⟨0, .data⟩ (by simp) rfl
      unfold rpF; go_wp2_with fail
      exact ⟨_, by simp [upd, h0], rfl, hC, hr⟩
    · have h1 : u 1 = _ := hd ⟨1, .data⟩ (by simp) rfl
      unfold rpF; go_wp2_with fail
      exact ⟨_, by simp [upd, h1], rfl, hC, hr⟩
    · have h2 : u 2 = _ := hd ⟨2, .data⟩ (by simp) rfl
      unfold rpF; go_wp2_with fail
      exact ⟨_, by simp [upd, h2], rfl, hC, hr⟩
    · have h3 : u 3 = _ := hd ⟨3, .data⟩ (by simp) rfl
      unfold rpF; go_wp2_with fail
      have hz := hC.size
      exact ⟨_, by simp [upd, h3], ⟨W.heap.size, hz, rfl, Blk.new' W 5 (ints .u8 [(m : Int) + 128]) rfl⟩, Below.alloc hC hz _, hr.alloc (Nat.le_refl _) _⟩
    · obtain ⟨b, q1, h4, q3⟩ : ∃ b, w.heap.size ≤ b ∧ u 4 = .slice (some ⟨b, 0, none⟩) 1 1 ∧ Blk W b 5 (ints .u8 [(m : Int) + 128]) := hd ⟨4, .data⟩ (by simp) rfl
      unfold rpF; go_wp2_with (refine wpList_bytes_string rfl 45 9 5 _ rfl b 1 1 [(m : Int) + 128] h4 Try.underlying45 Try.underlying5 Try.underlying9 q3.whole rfl ?_)
      exact ⟨_, by simp [upd, h4, HBS.out], rfl, hC, hr⟩
    · unfold rpF; go_wp2_with fail
      exact ⟨_, rfl, rfl, hC, hr⟩
    · have h6 : u 6 = _ := hd ⟨6, .data⟩ (by simp) rfl
      unfold rpF; go_wp2_with fail
      exact ⟨_, by simp [upd, h6], rfl, hC, hr⟩
    · have h7 : u 7 = _ := hd ⟨7, .data⟩ (by simp) rfl
      unfold rpF; go_wp2_with ((with_reducible refine (HI.out _).mono ?_); rintro e w5 ⟨rfl, hb5⟩)
      exact ⟨_, by simp [upd, h7], rfl, hC.trans (hb5.mono hC.size), hb5⟩
    · have h5 : u 5 = _ := hd ⟨5, .data⟩ (by simp) rfl
      have h8 : u 8 = _ := hd ⟨8, .data⟩ (by simp) rfl
      unfold rpF; go_wp2_with fail
      exact ⟨_, by simp [upd, h5, h8], rfl, hC, hr⟩
    · have h9 : u 9 = _ := hd ⟨9, .data⟩ (by simp) rfl
      unfold rpF; go_wp2_with fail
      exact ⟨_, by simp [upd, h9], rfl, hC, hr⟩
    · simp at ho
  case end_ =>
    intro u W hC hS
    have h10 : u 10 = .string z := hS 10 (by decide)
    unfold rpF
    go_wp2
    go_ret
    exact ⟨by show Ending.returned (u 10) = _; rw [h10], hC⟩
theorem r_putF : ∀ (f n : Nat), n < 128 ^ f → n < 18446744073709551616 → 0 < f → f ≤ 10 → ∀ w, Calls Try.prog 30 #[.int .u64 (n : Int)] w fun e w' => e = .returned (.string (tx (putF f n))) ∧ Below w.heap.size w w'
  | 0, _, _, _, h, _ => by omega
  | f + 1, n, hn, h64, _, hf => fun w => by
    by_cases h : n < 128
    · exact r_put_small f n w h
    · have h0 : 0 < f := by
        rcases Nat.eq_zero_or_pos f with rfl | h'
        · simp at hn; omega
        · exact h'
      exact r_put_big f n w h h64 (by omega) (r_putF f (n / 128) (by rw [Nat.pow_succ] at hn; omega) (by omega) h0 (by omega))
theorem r_VPut (n : Nat) (w : World) (hn : n < 18446744073709551616) :
    Calls Try.prog 30 #[.int .u64 (n : Int)] w fun e w' => e = .returned (.string (tx (putL n))) ∧ Below w.heap.size w w' :=
  r_putF 10 n (lt_128_10 hn) hn (by omega) (by omega) w
end Go.Proofs.Ytahfjfhiejhddaa
namespace Go.Proofs.Ytahfjfhiejhddaa
open Go.RowKit Go.Shelf
set_option linter.unusedVariables false

set_option maxRecDepth 100000 in
set_option maxHeartbeats 1000000 in
theorem r_VGet (s : ByteArray) (w : World) (hs : s.size ≤ 65536) (n k er : Nat) (r : ByteArray) (hg : getL (sl s) = (n, k, er)) (hr : tx ((sl s).drop k) = r) :
    Calls Try.prog 45 #[.string s] w fun e w' => e = .returned (.tuple #[.int .u64 (n : Int), .string r, .int .i64 (er : Int)]) ∧ Below w.heap.size w w' := by
  have HG := Lib.hid hg
  have HR := Lib.hid hr
  clear hg hr
  have hsl := sl_len s
  have hsb := sl_bys s
  have HSL := Lib.hid hsl
  have HSB := Lib.hid hsb
  clear hsl hsb
  go_enter Try.func45, Try.ntmps45
  go_wp2
  go_loop [5, 6] (fun u i => ∃ j : Nat, j ≤ 10 ∧ j ≤ s.size ∧ i = .int .i64 (j : Int) ∧ u = .int .u64 ((accN (sl s) j : Nat) : Int) ∧ getL (sl s) = getR (sl s) (10 - j) j) (fun _ i => 10 - (intOf i).toNat)
  case atStart => exact ⟨0, by omega, by omega, rfl, rfl, rfl⟩
  case round =>
    obtain ⟨j, hj, hjs, rfl, rfl, hgl⟩ := hrel
    have HGL := Lib.hid hgl
    clear hgl
    by_cases h10 : j < 10
    · have d10 : (j : Int) < 10 := by omega
      by_cases hjl : j = s.size
      · have hE : (0, s.size, 40) = (n, k, er) := by
          rw [← HG.out, HGL.out, show 10 - j = (10 - j - 1) + 1 by omega, get_short _ _ _ (by rw [HSL.out]; omega), HSL.out]
        have hR : r = ⟨#[]⟩ := by
          rw [← HR.out, ← tx_nil, show k = s.size by simpa using (congrArg (fun x => x.2.1) hE).symm, List.drop_eq_nil_of_le (by rw [HSL.out]; exact Nat.le_refl _)]
        obtain ⟨rfl, rfl, rfl⟩ : n = 0 ∧ k = s.size ∧ er = 40 := by simpa [eq_comm] using hE
        subst hR
        clear hE
        have dj : ¬ j < s.size := by omega
        have dk : decide ((s.size : Nat) ≤ j) = true := by simp; omega
        clear hjl
        go_wp2
        go_ret3
        exact ⟨rfl, Below.refl _ _⟩
      · have hlt : j < s.size := by omega
        have hacc := acc_step (sl s) j
        have hbb := HSB.out j
        have han := andNot_u8 _ hbb
        have i1 : (7 * (j : Int)).toNat = 7 * j := by omega
        have i2 : (0 : Int) ≤ 7 * (j : Int) := by omega
        have i3 : 7 * (j : Int) < 100 := by omega
        have hix := fun w => index_sl s .i64 j hlt w
        have dk : decide ((s.size : Nat) ≤ j) = false := by simp; omega
        have HACC := Lib.hid hacc
        clear hacc
        generalize hbe : (sl s).getD j 0 = b at *
        have HB := Lib.hid hbe
        clear hbe
        by_cases h128 : b < 128
        · have d1 : decide ((128 : Int) ≤ (b : Int)) = false := by simp; omega
          have hP : ∀ wx, Calls Try.prog 30 #[.int .u64 ((accN (sl s) (j + 1) : Nat) : Int)] wx fun e w' => e = .returned (.string (tx (putL (accN (sl s) (j + 1))))) ∧ Below wx.heap.size wx w' := fun wx => r_VPut _ wx (accN_lt _ _)
          have HP := Lib.hid hP
          clear hP
          have HACC' := HACC.out
          have hw : (putL (accN (sl s) (j + 1)) = (sl s).take (j + 1) ∧ ((tx (putL (accN (sl s) (j + 1)))).toList == (s.extract 0 (j + 1)).toList) = true ∧ accN (sl s) (j + 1) = n ∧ er = 0 ∧ r = s.extract (j + 1) s.size) ∨
              (((tx (putL (accN (sl s) (j + 1)))).toList == (s.extract 0 (j + 1)).toList) = false ∧ n = 0 ∧ er = 41 ∧ r = ⟨#[]⟩) := by
            by_cases hP : putL (accN (sl s) (j + 1)) = (sl s).take (j + 1)
            · have hE : (accN (sl s) (j + 1), j + 1, 0) = (n, k, er) := by
                rw [← HG.out, HGL.out, show 10 - j = (10 - (j + 1)) + 1 by omega, get_last _ _ _ (by rw [HSL.out]; exact hlt) (by rw [HB.out]; exact h128) hP]
              obtain ⟨q1, q2, q3⟩ : n = accN (sl s) (j + 1) ∧ k = j + 1 ∧ er = 0 := by simpa [eq_comm] using hE
              exact .inl ⟨hP, txt_eq (by rw [hP, head_tx]), q1.symm, q3, by rw [← HR.out, q2, tail_tx]⟩
            · have hE : (0, s.size, 41) = (n, k, er) := by
                rw [← HG.out, HGL.out, show 10 - j = (10 - (j + 1)) + 1 by omega, get_long _ _ _ (by rw [HSL.out]; exact hlt) (by rw [HB.out]; exact h128) hP, HSL.out]
              obtain ⟨q1, q2, q3⟩ : n = 0 ∧ k = s.size ∧ er = 41 := by simpa [eq_comm] using hE
              refine .inr ⟨txt_ne (fun e => hP (tx_inj (put_bys (accN_lt _ _)) ((HSB.out).take _) (e.trans (head_tx _ _)))), q1, q3, ?_⟩
              rw [← HR.out, ← tx_nil, q2, List.drop_eq_nil_of_le (by rw [HSL.out]; exact Nat.le_refl _)]
          clear HG HR HGL
          generalize accN (sl s) (j + 1) = a1 at *
          generalize accN (sl s) j = a0 at *
          generalize putL a1 = p1 at *
          generalize tx p1 = t1 at *
          have e1 : IntKind.i64.wrap ((j : Int) + 1) = (j : Int) + 1 := IntWalk.i64_in _ (by omega)
          have e2 : ((j : Int) + 1).toNat = j + 1 := by omega
          have e3 : (0 : Int) ≤ (j : Int) + 1 := by omega
          have e4 : (j : Int) + 1 ≤ (s.size : Int) := by omega
          rcases hw with ⟨_, hx, rfl, rfl, rfl⟩ | ⟨hx, rfl, rfl, rfl⟩
          all_goals
            go_wp2
            obtain ⟨w5, hw5⟩ : ∃ w5 : World, w5 = w := ⟨_, rfl⟩
            subst hw5
            have hP5 : ∀ wx, NewBut w5 wx → Calls Try.prog 30 #[.int .u64 ((a1 : Nat) : Int)] wx fun e w' => e = .returned (.string t1) ∧ NewBut w5 w' := fun wx h => (HP.out wx).mono fun _ _ ⟨q1, q2⟩ => ⟨q1, h.trans (q2.mono h.size)⟩
            have HP5 := Lib.hid hP5
            clear hP5
            refine region_quiet_tail (C := NewBut w5) 6 mixed (by kernel_rfl) (show Below _ _ _ from (Below.refl _ _).drew) ?_
            simp only [List.take_succ_cons, List.take_zero, List.drop_succ_cons, List.drop_zero]
            repeat (refine wpQuiet_step (fun K' hK' => ?_); go_simp; first | (refine ⟨_, fun _ _ => rfl, hK' _ ?_⟩; clear hK' K') | ((with_reducible refine ⟨_, fun wx hx => HP5.out wx hx, hK' _ ?_⟩); clear hK' K'))
            refine wpQuiet_nil ?_
            intro w6 hb6
            go_wp2
          · refine region_drew_tail 7 mixed (by kernel_rfl) ?_
            simp only [List.take_succ_cons, List.take_zero, List.drop_succ_cons, List.drop_zero]
            repeat (first | go_big_quiet_step (fail) | quiet_step (fail))
            refine wpQuiet_nil ?_
            rintro _ ⟨nq, rfl⟩
            go_wp2
            go_ret3
            exact ⟨rfl, below_drewN hb6 nq⟩
          · go_ret3
            exact ⟨rfl, hb6⟩
        · have d1 : decide ((128 : Int) ≤ (b : Int)) = true := by simp; omega
          go_wp2
          go_round
          case rel => exact ⟨j + 1, by omega, by omega, by go_num, by rw [HACC.out], by rw [HGL.out, show 10 - j = (10 - (j + 1)) + 1 by omega, get_more _ _ _ (by rw [HSL.out]; exact hlt) (by rw [HB.out]; omega)]⟩
          case measure => simp [intOf]; omega
    · obtain rfl : j = 10 := by omega
      have hE : (0, s.size, 41) = (n, k, er) := by
        rw [← HG.out, HGL.out, Nat.sub_self, get_zero, HSL.out]
      obtain ⟨q1, q2, q3⟩ : n = 0 ∧ k = s.size ∧ er = 41 := by simpa [eq_comm] using hE
      have hR : r = ⟨#[]⟩ := by rw [← HR.out, ← tx_nil, q2, List.drop_eq_nil_of_le (by rw [HSL.out]; exact Nat.le_refl _)]
      subst hR q1 q3
      clear hE
      go_wp2
      go_ret3
      exact ⟨rfl, Below.refl _ _⟩
end Go.Proofs.Ytahfjfhiejhddaa
namespace Go.Proofs.Ytahfjfhiejhddaa
open Go.RowKit Go.Shelf
set_option linter.unusedVariables false

set_option maxRecDepth 100000 in
set_option maxHeartbeats 400000 in
theorem rv_Text (s : ByteArray) (w : World) (hs : s.size ≤ 65536) :
    Calls Try.prog 32 #[.string s] w fun e w' => e = .returned (.string (tx (putL s.size ++ sl s))) ∧ Below w.heap.size w w' := by
  have hP := fun w => r_VPut s.size w (by omega)
  have hz : (tx (putL s.size)).size ≤ 10 := by rw [tx_size]; exact put_len_le _
  have hadd : ∀ w, (Op.stringOp .add (tx (putL s.size)) s).run Try.prog w = .ok (.string (tx (putL s.size ++ sl s))) w := fun w => by
    rw [run_string_add_sum _ _ _ (by omega), tx_app, tx_sl]
  generalize tx (putL s.size ++ sl s) = z at *
  generalize tx (putL s.size) = t at *
  have HP := Lib.hid hP
  clear hP
  go_enter Try.func32, Try.ntmps32
  go_wp2_with (go_at_call 30; (with_reducible refine (HP.out _).mono ?_); rintro e w1 ⟨rfl, hb1⟩)
  go_ret
  exact ⟨rfl, hb1⟩
set_option maxRecDepth 100000 in
set_option maxHeartbeats 1000000 in
theorem rv_Read (s : ByteArray) (w : World) (hs : s.size ≤ 65536) (x y : List Nat) (er : Nat) (a b : ByteArray) (h : readL (sl s) = (x, y, er)) (ha : tx x = a) (hb : tx y = b) :
    Calls Try.prog 47 #[.string s] w fun e w' => e = .returned (.tuple #[.string a, .string b, .int .i64 (er : Int)]) ∧ Below w.heap.size w w' := by
  obtain ⟨n, k, g, hg⟩ : ∃ n k g, getL (sl s) = (n, k, g) := ⟨_, _, _, rfl⟩
  have hG := fun w => r_VGet s w hs n k g _ hg rfl
  have hn : n < 18446744073709551616 := by have := get_lt (sl s); rwa [hg] at this
  have hsl : sl (tx ((sl s).drop k)) = (sl s).drop k := sl_tx ((sl_bys s).drop _)
  have hrz : (tx ((sl s).drop k)).size = ((sl s).drop k).length := tx_size _
  have hrl : ((sl s).drop k).length ≤ 65536 := by rw [List.length_drop, sl_len]; omega
  unfold readL at h
  rw [hg] at h
  dsimp only at h
  generalize tx ((sl s).drop k) = r at *
  generalize (sl s).drop k = R at *
  have HG := Lib.hid hG
  have HRZ := Lib.hid hrz
  clear hG hg
  by_cases h0 : g = 0
  · subst h0
    rw [if_neg (by decide)] at h
    by_cases hlt : R.length < n
    · rw [if_pos hlt] at h
      obtain ⟨rfl, rfl, rfl⟩ : x = [] ∧ y = [] ∧ er = 40 := by simpa [eq_comm] using h
      rw [tx_nil] at ha hb
      subst ha hb
      have d1 : (r.size : Int) < (n : Int) := by rw [HRZ.out]; omega
      clear hsl hrz h
      go_enter Try.func47, Try.ntmps47
      go_wp2_with (go_at_call 45; (with_reducible refine (HG.out _).mono ?_); rintro e w1 ⟨rfl, hb1⟩)
      go_ret3
      exact ⟨rfl, hb1⟩
    · rw [if_neg hlt] at h
      obtain ⟨rfl, rfl, rfl⟩ : x = R.take n ∧ y = R.drop n ∧ er = 0 := by simpa [eq_comm] using h
      have ea : a = r.extract 0 n := by rw [← ha, head_tx, hsl]
      have eb : b = r.extract n r.size := by rw [← hb, tail_tx, hsl]
      have d1 : ¬ (r.size : Int) < (n : Int) := by rw [HRZ.out]; omega
      have d2 : (n : Int) ≤ (r.size : Int) := by omega
      have d3 : r.size ≤ 65536 := by rw [HRZ.out]; omega
      clear hsl hrz h ha hb
      subst ea eb
      go_enter Try.func47, Try.ntmps47
      go_wp2_with (go_at_call 45; (with_reducible refine (HG.out _).mono ?_); rintro e w1 ⟨rfl, hb1⟩)
      refine region_drew_tail 8 mixed (by kernel_rfl) ?_
      simp only [List.take_succ_cons, List.take_zero, List.drop_succ_cons, List.drop_zero]
      repeat (first | go_big_quiet_step (fail) | quiet_step (fail))
      refine wpQuiet_nil ?_
      rintro _ ⟨nq, rfl⟩
      go_wp2
      go_ret3
      exact ⟨rfl, below_drewN hb1 nq⟩
  · rw [if_pos h0] at h
    obtain ⟨rfl, rfl, rfl⟩ : x = [] ∧ y = [] ∧ er = g := by simpa [eq_comm] using h
    rw [tx_nil] at ha hb
    subst ha hb
    have d1 : ((er : Int) == 0) = false := by simp; omega
    have d2 : ((er : Int) != 0) = true := by simp; omega
    clear hsl hrz h
    go_enter Try.func47, Try.ntmps47
    go_wp2_with (go_at_call 45; (with_reducible refine (HG.out _).mono ?_); rintro e w1 ⟨rfl, hb1⟩)
    go_ret3
    exact ⟨rfl, hb1⟩
end Go.Proofs.Ytahfjfhiejhddaa
namespace Go.Proofs.Ytahfjfhiejhddaa
open Go.RowKit Go.Shelf
set_option linter.unusedVariables false

set_option maxRecDepth 100000 in
set_option maxHeartbeats 1000000 in
theorem r_Big (n k : Nat) (w : World) (h1 : 1 ≤ k) (h2 : k ≤ 8) (hn : n < 18446744073709551616) :
    Calls Try.prog 29 #[.int .u64 (n : Int), .int .i64 (k : Int)] w fun e w' => e = .returned (.string (tx (bigL n k))) ∧ Below w.heap.size w w' := by
  have hl := big_len n k
  have hg := fun j hj => big_getD n k j hj
  obtain ⟨L, hL⟩ : ∃ L, bigL n k = L := ⟨_, rfl⟩
  rw [hL] at hl hg ⊢
  have HG := Lib.hid hg
  have HL := Lib.hid hl
  have k8 : (k : Int) ≤ 8 := by omega
  have k1 : (1 : Int) ≤ (k : Int) := by omega
  obtain ⟨i0, hi0, hz0, hz1, hz2⟩ := info_parts info_u8
  clear hl hg hL
  have qe := Blk.new' w 5 (c := #[]) (ints .u8 (nn [] ++ [])) rfl
  have qo := OwnB.ofBlk (base := w.heap.size) (cap := 0) [] qe (Nat.le_refl _) rfl (Nat.zero_le _)
  have qb := (Below.refl w.heap.size w).alloc (Nat.le_refl _) (.cells #[] 5)
  clear qe
  go_enter Try.func29, Try.ntmps29
  go_wp2
  generalize World.alloc w (.cells #[] 5) = w3 at *
  go_loopw [5, 6] (fun v i wr => ∃ (j : Nat) (p : Option Addr) (cap : Nat), i = .int .i64 ((k : Int) - 1 - (j : Int)) ∧ v = .slice p j cap ∧ OwnB wr w.heap.size 5 (.slice p j cap) (nn (L.take j)) ∧ j ≤ k ∧ Below w.heap.size w wr) (fun _ i _ => (intOf i + 1).toNat)
  case atStart => exact ⟨0, _, 0, by simp, rfl, qo, by omega, qb⟩
  case round =>
    obtain ⟨j, p, cap, rfl, rfl, go, hj, gb⟩ := hrel
    clear qo qb
    by_cases hlt : j < k
    · have hsn := take_snoc L j (by rw [HL.out]; exact hlt)
      rw [HG.out j hlt] at hsn
      have hll : (nn (L.take j)).length = j := by rw [nn_length, List.length_take, HL.out]; omega
      have hv := shr_byte n (k - 1 - j)
      have HSn := Lib.hid hsn
      clear hsn
      generalize n / 2 ^ (8 * (k - 1 - j)) % 256 = y at *
      obtain ⟨LJ, hLJ⟩ : ∃ M, L.take j = M := ⟨_, rfl⟩
      rw [hLJ] at go hll HSn
      clear hLJ
      have hrow : (wr.alloc (.cells #[.int .u8 (y : Int)] 5)).ownsRow w.heap.size 5 1 (.slice p j cap) j (ints .u8 (nn LJ)) := by
        have := go.alloc (.cells #[.int .u8 (y : Int)] 5)
        unfold OwnB at this
        rw [hll] at this
        exact this
      have hnew : ∀ jj u, [Value.int .u8 (y : Int)][jj]? = some u → (wr.alloc (.cells #[.int .u8 (y : Int)] 5)).cell? ((⟨wr.heap.size, 0, none⟩ : Addr).add jj) = some u := fun jj u h => by
        rw [Addr.add_mid]
        exact (Blk.new' wr 5 [Value.int .u8 (y : Int)] rfl).whole jj u h
      have hone : ∀ u ∈ [Value.int .u8 (y : Int)], u.oneCell' = true := by simp [Value.oneCell']
      have h63 : j + 1 ≤ maxLen := by simp [maxLen]; omega
      have hbyy : (j + 1) * 1 ≤ 140737488355328 := by omega
      have hbs := gb.size
      have hbase : w.heap.size ≤ (wr.alloc (.cells #[.int .u8 (y : Int)] 5)).heap.size := by simp; omega
      have hgl := fun i hi => (go.lt i hi).1
      have kw := gb.alloc hbs (.cells #[.int .u8 (y : Int)] 5)
      have i1 : (8 * ((k : Int) - 1 - (j : Int))).toNat = 8 * (k - 1 - j) := by omega
      have i2 : (0 : Int) ≤ 8 * ((k : Int) - 1 - (j : Int)) := by omega
      have i3 : 8 * ((k : Int) - 1 - (j : Int)) < 100 := by omega
      have d1 : (0 : Int) ≤ (k : Int) - 1 - (j : Int) := by omega
      have d2 : (j : Int) ≤ (k : Int) - 1 := by omega
      have HRow := Lib.hid hrow
      have HNew := Lib.hid hnew
      have HOne := Lib.hid hone
      have H63 := Lib.hid h63
      have HBY := Lib.hid hbyy
      have HBS := Lib.hid hbase
      have HLL := Lib.hid hll
      have Hgl := Lib.hid hgl
      clear hrow hnew hone h63 hbyy hbase hll gb hgl
      go_wp2_with (at_builtin; refine wpList_append_own_at _ rfl _ _ 45 rfl w.heap.size 5 i0 (.int .u8 0) 1 1 Try.underlying45 hi0 hz0 hz1 hz2 rfl (by decide) _ j _ rfl HRow.out ⟨wr.heap.size, 0, none⟩ 1 1 [.int .u8 (y : Int)] rfl rfl HNew.out HOne.out H63.out HBY.out HBS.out ?_; intro v5 w5 hown5 hg5 hnil5 hat5; obtain ⟨p5, cap5, rfl⟩ := own_slice hown5)
      go_roundw
      case rel =>
        have o5 : OwnB w5 w.heap.size 5 (.slice p5 (j + 1) cap5) (nn (L.take (j + 1))) := by
          rw [HSn.out]
          unfold OwnB
          rw [show nn (LJ ++ [y]) = nn LJ ++ [(y : Int)] by simp [nn], List.length_append, HLL.out, ints_app]
          exact hown5
        exact ⟨j + 1, p5, cap5, congrArg _ (by omega), rfl, o5, by omega, kw.grown hg5 kw.size (fun i hi => Hgl.out i hi)⟩
      case measure => simp [intOf]; omega
    · obtain rfl : j = k := by omega
      have hE : L.take j = L := List.take_of_length_le (by rw [HL.out]; exact Nat.le_refl _)
      rw [hE] at go
      have d1 : ¬ (0 : Int) ≤ (j : Int) - 1 - (j : Int) := by omega
      go_wp2_with (refine wpList_string_own rfl 45 9 5 _ rfl w.heap.size _ _ rfl Try.underlying45 Try.underlying5 Try.underlying9 go ?_)
      go_ret
      exact ⟨rfl, gb⟩
theorem r_Big_no (n : Int) (k : Int) (w : World) (h : k < 1 ∨ 8 < k) :
    Calls Try.prog 29 #[.int .u64 n, .int .i64 k] w fun e w' => e = .returned (.string ⟨#[]⟩) ∧ Below w.heap.size w w' := by
  by_cases h1 : k < 1
  · clear h
    go_enter Try.func29, Try.ntmps29
    go_wp2
    go_ret
    exact ⟨rfl, Below.refl _ _⟩
  · have h2 : 8 < k := by omega
    clear h
    go_enter Try.func29, Try.ntmps29
    go_wp2
    go_ret
    exact ⟨rfl, Below.refl _ _⟩
theorem r_Fixed_no (s : ByteArray) (k : Int) (w : World) (h : k < 1 ∨ 8 < k) :
    Calls Try.prog 44 #[.string s, .int .i64 k] w fun e w' => e = .returned (.tuple #[.int .u64 0, .string ⟨#[]⟩, .int .i64 1]) ∧ Below w.heap.size w w' := by
  by_cases h1 : k < 1
  · clear h
    go_enter Try.func44, Try.ntmps44
    go_wp2
    go_ret3
    exact ⟨rfl, Below.refl _ _⟩
  · have h2 : 8 < k := by omega
    clear h
    go_enter Try.func44, Try.ntmps44
    go_wp2
    go_ret3
    exact ⟨rfl, Below.refl _ _⟩
set_option maxRecDepth 100000 in
set_option maxHeartbeats 1000000 in
theorem r_Fixed (s : ByteArray) (k : Nat) (w : World) (h1 : 1 ≤ k) (h2 : k ≤ 8) (hs : s.size ≤ 65536) (n er : Nat) (r : ByteArray)
    (hw : (k ≤ s.size ∧ fixN (sl s) k = n ∧ s.extract k s.size = r ∧ er = 0) ∨ (s.size < k ∧ n = 0 ∧ r = ⟨#[]⟩ ∧ er = 40)) :
    Calls Try.prog 44 #[.string s, .int .i64 (k : Int)] w fun e w' => e = .returned (.tuple #[.int .u64 (n : Int), .string r, .int .i64 (er : Int)]) ∧ Below w.heap.size w w' := by
  have HSB := Lib.hid (sl_bys s)
  have k8 : (k : Int) ≤ 8 := by omega
  have k1 : (1 : Int) ≤ (k : Int) := by omega
  rcases hw with ⟨q1, q2, rfl, rfl⟩ | ⟨q1, rfl, rfl, rfl⟩
  · have HN := Lib.hid q2
    clear q2
    have d0 : ¬ s.size < k := by omega
    have d1 : decide (s.size < k) = false := by simp; omega
    go_enter Try.func44, Try.ntmps44
    go_wp2
    go_loop [7, 8] (fun u i => ∃ j : Nat, j ≤ k ∧ i = .int .i64 (j : Int) ∧ u = .int .u64 ((fixN (sl s) j : Nat) : Int)) (fun _ i => 8 - (intOf i).toNat)
    case atStart => exact ⟨0, by omega, rfl, rfl⟩
    case round =>
      obtain ⟨j, hj, rfl, rfl⟩ := hrel
      by_cases hlt : j < k
      · have d2 : (j : Int) < (k : Int) := by omega
        have hfs := fix_small HSB.out j (by omega)
        have hbb := HSB.out j
        have hix := fun w => index_sl s .i64 j (by omega) w
        have hst : ((fixN (sl s) j : Nat) : Int) * 256 + (((sl s).getD j 0 : Nat) : Int) = ((fixN (sl s) (j + 1) : Nat) : Int) := by
          show _ = ((fixN (sl s) j * 256 + (sl s).getD j 0 : Nat) : Int)
          omega
        generalize hF1 : fixN (sl s) (j + 1) = F1 at *
        have HF1 := Lib.hid hF1
        clear hF1
        generalize fixN (sl s) j = F0 at *
        generalize (sl s).getD j 0 = b at *
        go_wp2
        go_round
        case rel => exact ⟨j + 1, by omega, by go_num, by rw [HF1.out]⟩
        case measure => simp [intOf]; omega
      · obtain rfl : j = k := by omega
        rw [HN.out]
        have d3 : (j : Int) ≤ (s.size : Int) := by omega
        go_wp2
        refine region_drew_tail 6 mixed (by kernel_rfl) ?_
        simp only [List.take_succ_cons, List.take_zero, List.drop_succ_cons, List.drop_zero]
        repeat (first | go_big_quiet_step (fail) | quiet_step (fail))
        refine wpQuiet_nil ?_
        rintro _ ⟨nq, rfl⟩
        go_wp2
        go_ret3
        exact ⟨rfl, below_drewN (Below.refl _ _) nq⟩
  · have d1 : decide (s.size < k) = true := by simp; omega
    go_enter Try.func44, Try.ntmps44
    go_wp2
    go_ret3
    exact ⟨rfl, Below.refl _ _⟩
end Go.Proofs.Ytahfjfhiejhddaa
