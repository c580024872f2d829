/- The store's contents of an epoch alone; their frames; a journal of the store is opened. -/
import Derived.Test.YtbobdbdknapdcaaSoAdd
import Derived.Test.YtbobdbdknapdcaaAft
import Derived.Test.YtbobdbdknapdcaaYThe
import Derived.Test.YtbobdbdknapdcaaG4
namespace Go.Proofs.Ytbobdbdknapdcaa
open Go.RowKit
set_option linter.unusedVariables false

variable {w w' : World} {base : Nat}
set_option maxRecDepth 100000 in
set_option maxHeartbeats 2000000 in
theorem c_noBlocks (n : Nat) (w : World) :
    Calls Try.prog 16 #[.int .u64 (n : Int)] w fun e w' => ∃ M, e = .returned (.agg (coV M (.slice none 0 0) n true).toArray) ∧ w.heap.size ≤ M ∧ MapW w' M 0 (.map []) [] ∧ Below w.heap.size w w' := by
  obtain ⟨Z, hZ⟩ : ∃ Z, w.heap.size = Z := ⟨_, rfl⟩
  have zco : ∀ wx : World, (Instr.alloc 54 true (.tuple #[])).run Try.prog wx = .ok (.pointer (some ⟨wx.heap.size, 0, none⟩)) (wx.alloc (.cells #[.map none, .slice none 0 0, .int .u64 0, .bool false] 54)) := fun wx => by kernel_rfl
  obtain ⟨w1, hw1⟩ : ∃ w1, w.alloc (.cells #[.map none, .slice none 0 0, .int .u64 0, .bool false] 54) = w1 := ⟨_, rfl⟩
  have s1 : w1.heap.size = Z + 1 := by rw [← hw1, ← hZ]; simp
  have hb1 : Below Z w w1 := by rw [← hw1, ← hZ]; exact (Below.refl w.heap.size w).alloc (Nat.le_refl _) _
  have k1 : Blk w1 Z 54 [.map none, .slice none 0 0, .int .u64 0, .bool false] := by rw [← hw1, ← hZ]; exact Blk.new w _ _
  have HC := Lib.hid (c_contentsOf_none none 0 w1)
  have HZ := Lib.hid hZ
  have S1 := Lib.hid s1
  have K1 := Lib.hid k1
  have B1 := Lib.hid hb1
  clear s1 hb1 k1
  rw [hZ]
  go_enter Try.func16, Try.ntmps16
  go_wp2_with (refine wpList_alloc_n rfl 54 rfl Z HZ.out _ (zco _) ?_; rw [hw1])
  (with_reducible refine HC.out.mono ?_)
  rintro e w2 ⟨M, rfl, hM, m2, b2⟩
  rw [S1.out] at hM b2
  have hMs : M < w2.heap.size := m2.map.lt
  obtain ⟨A, hA⟩ : ∃ A, w2.heap.size = A := ⟨_, rfl⟩
  have k2 : Blk w2 Z 54 [.map none, .slice none 0 0, .int .u64 0, .bool false] := K1.out.below b2 (by omega)
  have B2 := B1.out.trans (b2.mono (by omega))
  have hAZ : Z + 1 ≤ A := by have := b2.size; rw [S1.out, hA] at this; exact this
  obtain ⟨w3, hw3⟩ : ∃ w3, w2.alloc (.cells #[.map none, .slice none 0 0, .int .u64 0, .bool false] 54) = w3 := ⟨_, rfl⟩
  have b23 : Below w2.heap.size w2 w3 := by rw [← hw3]; exact (Below.refl _ _).alloc (Nat.le_refl _) _
  have k3 : Blk w3 A 54 [.map none, .slice none 0 0, .int .u64 0, .bool false] := by rw [← hw3, ← hA]; exact Blk.new w2 _ _
  have z3 := k2.below b23 k2.lt
  have m3 := m2.below b23
  have B3 := B2.trans (b23.mono (by rw [hA]; omega))
  obtain ⟨w4, hw4⟩ : ∃ w4, w3.setRow A (co0 M).toArray = w4 := ⟨_, rfl⟩
  have k4 : Blk w4 A 54 (co0 M) := by rw [← hw4]; exact k3.row _ rfl
  have z4 : Blk w4 Z 54 [.map none, .slice none 0 0, .int .u64 0, .bool false] := by rw [← hw4]; exact z3.rowOther (by omega) _
  have m4 : MapW w4 M 0 (.map []) [] := by rw [← hw4]; exact m3.same (setRow_other w3 A M _ (by omega))
  have B4 : Below Z w w4 := by rw [← hw4]; exact below_setRow B3 (by omega) _
  have hc4 : ConW w4 Z A 0 54 [] M 0 (.map []) (.slice none 0 0) [] 0 false :=
    ⟨k4, rfl, by decide, m4, OwnR.nil _ _ _ _, by omega, by omega, by simp, by simp⟩
  have HM := Lib.hid (c_mark hc4 n)
  have HA := Lib.hid hA
  have K3 := Lib.hid k3
  have Z4 := Lib.hid z4
  have BB4 := Lib.hid B4
  have HAZ := Lib.hid hAZ
  have HMZ : Hid (Z + 1 ≤ M ∧ M < A) := Lib.hid ⟨hM, by omega⟩
  clear hM m2 b2 hMs k2 B2 hAZ b23 k3 z3 m3 B3 k4 z4 m4 B4 hc4
  unfold co0 at hw4
  go_wp2_with (first | (refine wpList_alloc_n rfl 54 rfl A HA.out _ (zco _) ?_; rw [hw3]) | (refine wpList_store_blk rfl 54 _ _ rfl A [.map (some M), .slice none 0 0, .int .u64 0, .bool false] rfl rfl K3.out (by rw [size_co]; rfl) rfl (by simp [Value.oneCell']) ?_; rw [hw4]))
  (with_reducible refine HM.out.mono ?_)
  rintro e w5 ⟨rfl, h5, g5⟩
  have k5 : Blk w5 A 54 (coV M (.slice none 0 0) n true) := h5.blk
  have z5 := Z4.out.grownO g5 (fun i e1 e2 => by have := HAZ.out; have e3 := Option.some.inj e1; omega)
  have B5 := BB4.out.grown g5 (by have := BB4.out.size; omega) (fun i e => by have := HAZ.out; have e3 := Option.some.inj e; omega)
  obtain ⟨w6, hw6⟩ : ∃ w6, w5.setRow Z (coV M (.slice none 0 0) n true).toArray = w6 := ⟨_, rfl⟩
  have z6 : Blk w6 Z 54 (coV M (.slice none 0 0) n true) := by rw [← hw6]; exact z5.row _ rfl
  have m6 : MapW w6 M 0 (.map []) [] := by rw [← hw6]; exact h5.map.same (setRow_other w5 Z M _ (by have := HMZ.out; omega))
  have B6 : Below Z w w6 := by rw [← hw6]; exact below_setRow B5 (Nat.le_refl _) _
  have K5 := Lib.hid k5
  have Z5 := Lib.hid z5
  have Z6 := Lib.hid z6
  have M6 := Lib.hid m6
  have BB6 := Lib.hid B6
  clear h5 g5 k5 z5 B5 z6 m6 B6
  unfold coV at hw6 K5 Z6
  go_wp2_with (first | (refine wpList_load_blk rfl 54 _ rfl A rfl K5.out Try.underlying54 rfl (by rw [size_co]; rfl) ?_) | (refine wpList_store_blk rfl 54 _ _ rfl Z [.map (some M), .slice none 0 0, .int .u64 (n : Int), .bool true] rfl rfl Z5.out (by rw [size_co]; rfl) rfl (by simp [Value.oneCell']) ?_; rw [hw6]))
  refine bodyPost_ret (v := .agg #[.map (some M), .slice none 0 0, .int .u64 (n : Int), .bool true]) (results_cell_blk rfl _ _ _ rfl Z6.out Try.underlying54 rfl (by rw [size_co]; rfl)) rfl ⟨M, rfl, by have := HMZ.out; omega, M6.out, BB6.out⟩
set_option maxRecDepth 100000 in
set_option maxHeartbeats 2000000 in
theorem c_frames0 {B M e : Nat} {mk : Bool} (hB : Blk w B 54 (coV M (.slice none 0 0) e mk)) (he : e < 18446744073709551616) :
    Calls Try.prog 31 #[.pointer (some ⟨B, 0, none⟩)] w fun x w' => ∃ p c, x = .returned (.slice p 1 c) ∧ Sl w' 1 (.slice p 1 c) (rowsS [77 :: bigL e 8]) ∧ Below w.heap.size w w' := by
  have c1 := hB.cell 1
  have c2 := hB.cell 2
  simp only [coV, List.getElem?_cons_zero, List.getElem?_cons_succ] at c1 c2
  have HF := Lib.hid (fun wx => c_markFrame e wx he)
  obtain ⟨i0, hi0, hz0, hz1, hz2⟩ := info_parts2 info_str
  clear hB he
  go_enter Try.func31, Try.ntmps31
  go_wp2_with fail
  go_loopw [3, 11] (fun l i wr => l = .slice none 0 0 ∧ i = .int .i64 0 ∧ wr = w) (fun _ _ _ => 0)
  case atStart => exact ⟨rfl, rfl, rfl⟩
  case round =>
    obtain ⟨rfl, rfl, rfl⟩ := hrel
    go_wp2_with fail
    (with_reducible refine (HF.out _).mono ?_)
    rintro x w1 ⟨rfl, b1⟩
    obtain ⟨T, hT⟩ : ∃ T, tx (77 :: bigL e 8) = T := ⟨_, rfl⟩
    have hrow : rowsS [77 :: bigL e 8] = [[.string T]] := by rw [← hT]; rfl
    rw [hT]
    have HROW := Lib.hid hrow
    have kn := Blk.new' w1 9 (c := #[.string T]) [.string T] rfl
    have hal := (Below.refl w1.heap.size w1).alloc (Nat.le_refl _) (.cells #[.string T] 9)
    have hon := OwnR.nil (w1.alloc (.cells #[.string T] 9)) w1.heap.size 9 1
    have HB1 := Lib.hid b1
    have HNW := Lib.hid (sl_one kn)
    have HAL := Lib.hid hal
    have HON := Lib.hid hon
    have HSZ := Lib.hid hal.size
    clear b1 hrow hT kn hal hon
    go_wp2_with (first | (refine wpList_append_rows rfl _ _ 58 rfl w1.heap.size 9 i0 (.string ⟨#[]⟩) 1 16 Try.underlying58 hi0 hz0 hz1 hz2 (by rfl) (by decide) (.slice none 0 0) [] rfl HON.out (.slice (some ⟨w1.heap.size, 0, none⟩) 1 1) [[.string T]] rfl HNW.out (by simp [Value.oneCell']) (by show 1 ≤ _; decide) (by show 1 * 16 ≤ _; decide) HSZ.out (.inr ⟨_, _, _, rfl⟩) ?_; intro v' w5 ho5 hg5 hv5))
    obtain ⟨p5, c5, rfl⟩ := ho5.isSlice
    have hsl := ho5.sl
    have HSL := Lib.hid hsl
    have HF5 := Lib.hid (HB1.out.trans ((HAL.out.mono (Nat.le_refl _)).grown hg5 HSZ.out (fun i e => by cases e) |>.mono HB1.out.size))
    clear ho5 hg5 hv5 hsl
    go_wp2
    go_ret
    exact ⟨p5, c5, rfl, by rw [HROW.out]; exact HSL.out, HF5.out⟩

/-! ### a store's journal is opened -/
def stP (D b0 b1 b2 : Nat) (x0 x1 : Value) (us : Nat) : List Value := [ptD D, .int .i64 (b0 : Int), .int .i64 (b1 : Int), .int .i64 (b2 : Int), x0, x1, .int .i64 (us : Int)]
set_option maxRecDepth 100000 in
set_option maxHeartbeats 2000000 in
theorem s_open0 {P D b0 b1 b2 : Nat} {x0 x1 : Value} {us : Nat} {cs : List Value} {d : DiskM} {js : List (Nat × JurM)} {F : Nat → Prop} (hP : Blk w P 56 (stP D b0 b1 b2 x0 x1 us ++ cs)) (h : StJ base w D d js F) (hb : DkJ d 50000) (hw : base ≤ w.heap.size) (hlt : b0 < b1) (hto : b1 ≤ d.sec.length) (hbig : b1 ≤ 1000) (l : List (List Nat)) (u : Nat) (hs : scanK (areaD d b0 (b1 - b0)) = (l, u)) :
    Calls Try.prog 13 #[.pointer (some ⟨P, 0, none⟩), .int .i64 0] w fun x w' => ∃ J p c F', x = .returned (.tuple #[ptD J, .slice p l.length c, .int .i64 0]) ∧ StJ base w' D d ((J, ⟨b0, b1, b0 + u⟩) :: js) F' ∧ Sl w' 1 (.slice p l.length c) (rowsS l) ∧ Turn base w w' F F' := by
  have c0 := hP.cell 0
  have c1 := hP.cell 1
  have c2 := hP.cell 2
  have c3 := hP.cell 3
  simp only [stP, List.cons_append, List.getElem?_cons_zero, List.getElem?_cons_succ] at c0 c1 c2 c3
  have hdr : StJ base w.drew D d js F := h.keep (Nat.le_refl _) fun _ _ => rfl
  have HO := Lib.hid (theJur.open_ hdr hb hw b0 b1 hlt hto hbig l u hs)
  clear hP h hb hw hlt hto hbig hs hdr
  unfold ptD at c0 HO ⊢
  go_enter Try.func13, Try.ntmps13
  go_wp2_with fail
  refine region_after (X := Nat × Option Addr × Nat × (Nat → Prop)) 17 23 (by decide) mixed (by kernel_rfl) (by kernel_rfl) (by kernel_rfl) (by kernel_rfl) (fun u => #[_, _, _, _, u 21, u 22, u 23, u 0, u 1, u 2, u 3, u 4, u 5, u 6, u 7, u 8, u 9, u 10, u 11, u 12, u 13, u 14, u 15, u 16, u 17, u 18, u 19, u 20]) [] (fun i => if i = 21 then .pointer none else if i = 22 then .slice none 0 0 else if i = 23 then .int .i64 0 else undef) rfl
    (fun i v => match i with
      | 0 | 1 | 4 | 6 | 10 | 13 => v = .pointer (some ⟨P, 0, none⟩)
      | 2 => v = .pointer (some ⟨P, 0, none⟩)
      | 3 => v = .pointer (some ⟨D, 0, none⟩)
      | 5 => v = .int .i64 0
      | 7 => v = .pointer (some ⟨P, 1, none⟩)
      | 8 => v = .pointer (some ⟨P, 1, none⟩)
      | 9 => v = .int .i64 (b0 : Int)
      | 11 => v = .int .i64 0
      | 12 => v = .int .i64 1
      | 14 => v = .pointer (some ⟨P, 1, none⟩)
      | 15 => v = .pointer (some ⟨P, 2, none⟩)
      | 16 => v = .int .i64 (b1 : Int)
      | _ => True)
    (fun x => .tuple #[.pointer (some ⟨x.1, 0, none⟩), .slice x.2.1 l.length x.2.2.1, .int .i64 0])
    (fun x W => StJ base W D d ((x.1, ⟨b0, b1, b0 + u⟩) :: js) x.2.2.2 ∧ Sl W 1 (.slice x.2.1 l.length x.2.2.1) (rowsS l) ∧ Turn base w.drew W F x.2.2.2)
    (fun x i v => match i with
      | 18 | 21 => v = .pointer (some ⟨x.1, 0, none⟩)
      | 19 | 22 => v = .slice x.2.1 l.length x.2.2.1
      | 20 | 23 => v = .int .i64 0
      | _ => True) ?head ?one ?tail ?last
  case head =>
    intro u i op hi ho hd
    rcases i with _ | _ | _ | _ | _ | _ | _ | _ | _ | _ | _ | _ | _ | _ | _ | _ | _ | i
    all_goals try (simp only [List.getElem?_cons_zero, List.getElem?_cons_succ, Option.some.injEq] at ho; subst ho)
    · go_wp2_with fail
      exact ⟨rfl, _, by rfl, rfl⟩
    · have h0 : u 0 = .pointer (some ⟨P, 0, none⟩) := hd ⟨0, .data⟩ (by simp) rfl
      rw [h0]
      go_wp2_with fail
      exact ⟨rfl, _, by simp [upd, h0], rfl⟩
    · have h1 : u 1 = .pointer (some ⟨P, 0, none⟩) := hd ⟨1, .data⟩ (by simp) rfl
      rw [h1]
      go_wp2_with fail
      exact ⟨rfl, _, by simp [upd, h1], rfl⟩
    · have h2 : u 2 = .pointer (some ⟨P, 0, none⟩) := hd ⟨2, .data⟩ (by simp) rfl
      rw [h2]
      go_wp2_with fail
      exact ⟨rfl, _, by simp [upd, h2], rfl⟩
    · go_wp2_with fail
      exact ⟨rfl, _, by rfl, rfl⟩
    · go_wp2_with fail
      exact ⟨rfl, _, by rfl, rfl⟩
    · have h4 : u 4 = .pointer (some ⟨P, 0, none⟩) := hd ⟨4, .data⟩ (by simp) rfl
      rw [h4]
      go_wp2_with fail
      exact ⟨rfl, _, by simp [upd, h4], rfl⟩
    · have h6 : u 6 = .pointer (some ⟨P, 0, none⟩) := hd ⟨6, .data⟩ (by simp) rfl
      rw [h6]
      go_wp2_with fail
      exact ⟨rfl, _, by simp [upd, h6], rfl⟩
    · have h7 : u 7 = .pointer (some ⟨P, 1, none⟩) := hd ⟨7, .data⟩ (by simp) rfl
      have h5 : u 5 = .int .i64 0 := hd ⟨5, .data⟩ (by simp) rfl
      rw [h7, h5]
      go_wp2_with fail
      exact ⟨rfl, _, by simp [upd, h7, h5], rfl⟩
    · have h8 : u 8 = .pointer (some ⟨P, 1, none⟩) := hd ⟨8, .data⟩ (by simp) rfl
      rw [h8]
      go_wp2_with fail
      exact ⟨rfl, _, by simp [upd, h8], rfl⟩
    · go_wp2_with fail
      exact ⟨rfl, _, by rfl, rfl⟩
    · go_wp2_with fail
      exact ⟨rfl, _, by rfl, rfl⟩
    · have h11 : u 11 = .int .i64 0 := hd ⟨11, .data⟩ (by simp) rfl
      rw [h11]
      go_wp2_with fail
      exact ⟨rfl, _, by simp [upd, h11], rfl⟩
    · have h10 : u 10 = .pointer (some ⟨P, 0, none⟩) := hd ⟨10, .data⟩ (by simp) rfl
      rw [h10]
      go_wp2_with fail
      exact ⟨rfl, _, by simp [upd, h10], rfl⟩
    · have h13 : u 13 = .pointer (some ⟨P, 0, none⟩) := hd ⟨13, .data⟩ (by simp) rfl
      rw [h13]
      go_wp2_with fail
      exact ⟨rfl, _, by simp [upd, h13], rfl⟩
    · have h14 : u 14 = .pointer (some ⟨P, 1, none⟩) := hd ⟨14, .data⟩ (by simp) rfl
      have h12 : u 12 = .int .i64 1 := hd ⟨12, .data⟩ (by simp) rfl
      rw [h14, h12]
      go_wp2_with fail
      exact ⟨rfl, _, by simp [upd, h14, h12], rfl⟩
    · have h15 : u 15 = .pointer (some ⟨P, 2, none⟩) := hd ⟨15, .data⟩ (by simp) rfl
      rw [h15]
      go_wp2_with fail
      exact ⟨rfl, _, by simp [upd, h15], rfl⟩
    · omega
  case one =>
    intro u op ho hd
    simp only [List.getElem?_cons_zero, List.getElem?_cons_succ, Option.some.injEq] at ho
    subst ho
    have h3 : u 3 = .pointer (some ⟨D, 0, none⟩) := hd 3 (by decide)
    have h9 : u 9 = .int .i64 (b0 : Int) := hd 9 (by decide)
    have h16 : u 16 = .int .i64 (b1 : Int) := hd 16 (by decide)
    clear hd
    rw [h3, h9, h16]
    go_wp2_with fail
    (with_reducible refine HO.out.mono ?_)
    rintro x w' ⟨J, p, c, F', rfl, hst, hsl, ht⟩
    go_wp2_with fail
    exact ⟨(J, p, c, F'), by first | rfl | (simp [upd, h3, h9, h16]; done) | (simp [upd, h3, h9, h16]; rfl), hst, hsl, ht⟩
  case tail =>
    rintro ⟨J, p, c, F'⟩ u i op W hki hin ho hp hu hd
    have hu : u 17 = .tuple #[.pointer (some ⟨J, 0, none⟩), .slice p l.length c, .int .i64 0] := hu
    rcases i with _ | _ | _ | _ | _ | _ | _ | _ | _ | _ | _ | _ | _ | _ | _ | _ | _ | _ | _ | _ | _ | _ | _ | i
    all_goals try omega
    all_goals try (simp only [List.getElem?_cons_zero, List.getElem?_cons_succ, Option.some.injEq] at ho; subst ho)
    · rw [hu]
      go_wp2_with fail
      exact ⟨rfl, _, by simp [upd, hu], rfl⟩
    · rw [hu]
      go_wp2_with fail
      exact ⟨rfl, _, by simp [upd, hu], rfl⟩
    · rw [hu]
      go_wp2_with fail
      exact ⟨rfl, _, by simp [upd, hu], rfl⟩
    · have h18 : u 18 = .pointer (some ⟨J, 0, none⟩) := hd ⟨18, .data⟩ (by simp) rfl (by decide)
      rw [h18]
      go_wp2_with fail
      exact ⟨rfl, _, by simp [upd, h18, hu], rfl⟩
    · have h19 : u 19 = .slice p l.length c := hd ⟨19, .data⟩ (by simp) rfl (by decide)
      rw [h19]
      go_wp2_with fail
      exact ⟨rfl, _, by simp [upd, h19, hu], rfl⟩
  case last =>
    rintro ⟨J, p, c, F'⟩ u op W ho hp hu hS
    simp only [List.getElem?_cons_zero, List.getElem?_cons_succ, Option.some.injEq] at ho
    subst ho
    have h20 : u 20 = .int .i64 0 := hS 20 (by decide) (by decide)
    have h21 : u 21 = .pointer (some ⟨J, 0, none⟩) := hS 21 (by decide) (by decide)
    have h22 : u 22 = .slice p l.length c := hS 22 (by decide) (by decide)
    obtain ⟨q1, q2, q3⟩ := hp
    have Q1 := Lib.hid q1
    have Q2 := Lib.hid q2
    have Q3 := Lib.hid q3
    clear hS hu q1 q2 q3
    rw [h20, h21, h22]
    go_wp2_with fail
    go_ret3
    have q3 : Turn base w W F F' := ⟨((Below.refl base w).drew).trans Q3.out.b, Q3.out.out, Q3.out.new⟩
    exact ⟨J, p, c, rfl, F', Q1.out, Q2.out, q3⟩
set_option maxRecDepth 100000 in
set_option maxHeartbeats 2000000 in
theorem s_open1 {P D b0 b1 b2 : Nat} {x0 x1 : Value} {us : Nat} {cs : List Value} {d : DiskM} {js : List (Nat × JurM)} {F : Nat → Prop} (hP : Blk w P 56 (stP D b0 b1 b2 x0 x1 us ++ cs)) (h : StJ base w D d js F) (hb : DkJ d 50000) (hw : base ≤ w.heap.size) (hlt : b1 < b2) (hto : b2 ≤ d.sec.length) (hbig : b2 ≤ 1000) (l : List (List Nat)) (u : Nat) (hs : scanK (areaD d b1 (b2 - b1)) = (l, u)) :
    Calls Try.prog 13 #[.pointer (some ⟨P, 0, none⟩), .int .i64 1] w fun x w' => ∃ J p c F', x = .returned (.tuple #[ptD J, .slice p l.length c, .int .i64 0]) ∧ StJ base w' D d ((J, ⟨b1, b2, b1 + u⟩) :: js) F' ∧ Sl w' 1 (.slice p l.length c) (rowsS l) ∧ Turn base w w' F F' := by
  have c0 := hP.cell 0
  have c1 := hP.cell 1
  have c2 := hP.cell 2
  have c3 := hP.cell 3
  simp only [stP, List.cons_append, List.getElem?_cons_zero, List.getElem?_cons_succ] at c0 c1 c2 c3
  have hdr : StJ base w.drew D d js F := h.keep (Nat.le_refl _) fun _ _ => rfl
  have HO := Lib.hid (theJur.open_ hdr hb hw b1 b2 hlt hto hbig l u hs)
  clear hP h hb hw hlt hto hbig hs hdr
  unfold ptD at c0 HO ⊢
  go_enter Try.func13, Try.ntmps13
  go_wp2_with fail
  refine region_after (X := Nat × Option Addr × Nat × (Nat → Prop)) 17 23 (by decide) mixed (by kernel_rfl) (by kernel_rfl) (by kernel_rfl) (by kernel_rfl) (fun u => #[_, _, _, _, u 21, u 22, u 23, u 0, u 1, u 2, u 3, u 4, u 5, u 6, u 7, u 8, u 9, u 10, u 11, u 12, u 13, u 14, u 15, u 16, u 17, u 18, u 19, u 20]) [] (fun i => if i = 21 then .pointer none else if i = 22 then .slice none 0 0 else if i = 23 then .int .i64 0 else undef) rfl
    (fun i v => match i with
      | 0 | 1 | 4 | 6 | 10 | 13 => v = .pointer (some ⟨P, 0, none⟩)
      | 2 => v = .pointer (some ⟨P, 0, none⟩)
      | 3 => v = .pointer (some ⟨D, 0, none⟩)
      | 5 => v = .int .i64 1
      | 7 => v = .pointer (some ⟨P, 1, none⟩)
      | 8 => v = .pointer (some ⟨P, 2, none⟩)
      | 9 => v = .int .i64 (b1 : Int)
      | 11 => v = .int .i64 1
      | 12 => v = .int .i64 2
      | 14 => v = .pointer (some ⟨P, 1, none⟩)
      | 15 => v = .pointer (some ⟨P, 3, none⟩)
      | 16 => v = .int .i64 (b2 : Int)
      | _ => True)
    (fun x => .tuple #[.pointer (some ⟨x.1, 0, none⟩), .slice x.2.1 l.length x.2.2.1, .int .i64 0])
    (fun x W => StJ base W D d ((x.1, ⟨b1, b2, b1 + u⟩) :: js) x.2.2.2 ∧ Sl W 1 (.slice x.2.1 l.length x.2.2.1) (rowsS l) ∧ Turn base w.drew W F x.2.2.2)
    (fun x i v => match i with
      | 18 | 21 => v = .pointer (some ⟨x.1, 0, none⟩)
      | 19 | 22 => v = .slice x.2.1 l.length x.2.2.1
      | 20 | 23 => v = .int .i64 0
      | _ => True) ?head ?one ?tail ?last
  case head =>
    intro u i op hi ho hd
    rcases i with _ | _ | _ | _ | _ | _ | _ | _ | _ | _ | _ | _ | _ | _ | _ | _ | _ | i
    all_goals try (simp only [List.getElem?_cons_zero, List.getElem?_cons_succ, Option.some.injEq] at ho; subst ho)
    · go_wp2_with fail
      exact ⟨rfl, _, by rfl, rfl⟩
    · have h0 : u 0 = .pointer (some ⟨P, 0, none⟩) := hd ⟨0, .data⟩ (by simp) rfl
      rw [h0]
      go_wp2_with fail
      exact ⟨rfl, _, by simp [upd, h0], rfl⟩
    · have h1 : u 1 = .pointer (some ⟨P, 0, none⟩) := hd ⟨1, .data⟩ (by simp) rfl
      rw [h1]
      go_wp2_with fail
      exact ⟨rfl, _, by simp [upd, h1], rfl⟩
    · have h2 : u 2 = .pointer (some ⟨P, 0, none⟩) := hd ⟨2, .data⟩ (by simp) rfl
      rw [h2]
      go_wp2_with fail
      exact ⟨rfl, _, by simp [upd, h2], rfl⟩
    · go_wp2_with fail
      exact ⟨rfl, _, by rfl, rfl⟩
    · go_wp2_with fail
      exact ⟨rfl, _, by rfl, rfl⟩
    · have h4 : u 4 = .pointer (some ⟨P, 0, none⟩) := hd ⟨4, .data⟩ (by simp) rfl
      rw [h4]
      go_wp2_with fail
      exact ⟨rfl, _, by simp [upd, h4], rfl⟩
    · have h6 : u 6 = .pointer (some ⟨P, 0, none⟩) := hd ⟨6, .data⟩ (by simp) rfl
      rw [h6]
      go_wp2_with fail
      exact ⟨rfl, _, by simp [upd, h6], rfl⟩
    · have h7 : u 7 = .pointer (some ⟨P, 1, none⟩) := hd ⟨7, .data⟩ (by simp) rfl
      have h5 : u 5 = .int .i64 1 := hd ⟨5, .data⟩ (by simp) rfl
      rw [h7, h5]
      go_wp2_with fail
      exact ⟨rfl, _, by simp [upd, h7, h5], rfl⟩
    · have h8 : u 8 = .pointer (some ⟨P, 2, none⟩) := hd ⟨8, .data⟩ (by simp) rfl
      rw [h8]
      go_wp2_with fail
      exact ⟨rfl, _, by simp [upd, h8], rfl⟩
    · go_wp2_with fail
      exact ⟨rfl, _, by rfl, rfl⟩
    · go_wp2_with fail
      exact ⟨rfl, _, by rfl, rfl⟩
    · have h11 : u 11 = .int .i64 1 := hd ⟨11, .data⟩ (by simp) rfl
      rw [h11]
      go_wp2_with fail
      exact ⟨rfl, _, by simp [upd, h11], rfl⟩
    · have h10 : u 10 = .pointer (some ⟨P, 0, none⟩) := hd ⟨10, .data⟩ (by simp) rfl
      rw [h10]
      go_wp2_with fail
      exact ⟨rfl, _, by simp [upd, h10], rfl⟩
    · have h13 : u 13 = .pointer (some ⟨P, 0, none⟩) := hd ⟨13, .data⟩ (by simp) rfl
      rw [h13]
      go_wp2_with fail
      exact ⟨rfl, _, by simp [upd, h13], rfl⟩
    · have h14 : u 14 = .pointer (some ⟨P, 1, none⟩) := hd ⟨14, .data⟩ (by simp) rfl
      have h12 : u 12 = .int .i64 2 := hd ⟨12, .data⟩ (by simp) rfl
      rw [h14, h12]
      go_wp2_with fail
      exact ⟨rfl, _, by simp [upd, h14, h12], rfl⟩
    · have h15 : u 15 = .pointer (some ⟨P, 3, none⟩) := hd ⟨15, .data⟩ (by simp) rfl
      rw [h15]
      go_wp2_with fail
      exact ⟨rfl, _, by simp [upd, h15], rfl⟩
    · omega
  case one =>
    intro u op ho hd
    simp only [List.getElem?_cons_zero, List.getElem?_cons_succ, Option.some.injEq] at ho
    subst ho
    have h3 : u 3 = .pointer (some ⟨D, 0, none⟩) := hd 3 (by decide)
    have h9 : u 9 = .int .i64 (b1 : Int) := hd 9 (by decide)
    have h16 : u 16 = .int .i64 (b2 : Int) := hd 16 (by decide)
    clear hd
    rw [h3, h9, h16]
    go_wp2_with fail
    (with_reducible refine HO.out.mono ?_)
    rintro x w' ⟨J, p, c, F', rfl, hst, hsl, ht⟩
    go_wp2_with fail
    exact ⟨(J, p, c, F'), by first | rfl | (simp [upd, h3, h9, h16]; done) | (simp [upd, h3, h9, h16]; rfl), hst, hsl, ht⟩
  case tail =>
    rintro ⟨J, p, c, F'⟩ u i op W hki hin ho hp hu hd
    have hu : u 17 = .tuple #[.pointer (some ⟨J, 0, none⟩), .slice p l.length c, .int .i64 0] := hu
    rcases i with _ | _ | _ | _ | _ | _ | _ | _ | _ | _ | _ | _ | _ | _ | _ | _ | _ | _ | _ | _ | _ | _ | _ | i
    all_goals try omega
    all_goals try (simp only [List.getElem?_cons_zero, List.getElem?_cons_succ, Option.some.injEq] at ho; subst ho)
    · rw [hu]
      go_wp2_with fail
      exact ⟨rfl, _, by simp [upd, hu], rfl⟩
    · rw [hu]
      go_wp2_with fail
      exact ⟨rfl, _, by simp [upd, hu], rfl⟩
    · rw [hu]
      go_wp2_with fail
      exact ⟨rfl, _, by simp [upd, hu], rfl⟩
    · have h18 : u 18 = .pointer (some ⟨J, 0, none⟩) := hd ⟨18, .data⟩ (by simp) rfl (by decide)
      rw [h18]
      go_wp2_with fail
      exact ⟨rfl, _, by simp [upd, h18, hu], rfl⟩
    · have h19 : u 19 = .slice p l.length c := hd ⟨19, .data⟩ (by simp) rfl (by decide)
      rw [h19]
      go_wp2_with fail
      exact ⟨rfl, _, by simp [upd, h19, hu], rfl⟩
  case last =>
    rintro ⟨J, p, c, F'⟩ u op W ho hp hu hS
    simp only [List.getElem?_cons_zero, List.getElem?_cons_succ, Option.some.injEq] at ho
    subst ho
    have h20 : u 20 = .int .i64 0 := hS 20 (by decide) (by decide)
    have h21 : u 21 = .pointer (some ⟨J, 0, none⟩) := hS 21 (by decide) (by decide)
    have h22 : u 22 = .slice p l.length c := hS 22 (by decide) (by decide)
    obtain ⟨q1, q2, q3⟩ := hp
    have Q1 := Lib.hid q1
    have Q2 := Lib.hid q2
    have Q3 := Lib.hid q3
    clear hS hu q1 q2 q3
    rw [h20, h21, h22]
    go_wp2_with fail
    go_ret3
    have q3 : Turn base w W F F' := ⟨((Below.refl base w).drew).trans Q3.out.b, Q3.out.out, Q3.out.new⟩
    exact ⟨J, p, c, rfl, F', Q1.out, Q2.out, q3⟩
end Go.Proofs.Ytbobdbdknapdcaa
