/- What StoreQuota asks of the program's store, as one record; the case shown. -/
import Derived.Test.YtbobdbdknapdcaaSoTwo
import Derived.Test.YtbobdbdknapdcaaSoMap
import Derived.Test.YtbobdbdknapdcaaD5
import Derived.Test.YtbobdbdknapdcaaR3
import Derived.Test.YtbobdbdknapdcaaZB
import Derived.Test.YtbobdbdknapdcaaYNum
import Derived.Test.YtbobdbdknapdcaaG1
import Derived.BigQuiet
namespace Go.Proofs.Ytbobdbdknapdcaa
open Go.RowKit
set_option linter.unusedVariables false

structure StoreKit where
  /-- base, the world, the store's place, its blocks, the room of its journal -/
  Rep : Nat → World → Nat → List (List Nat) → Nat → Prop
  keep : ∀ {base : Nat} {w w' : World} {P : Nat} {L : List (List Nat)} {r : Nat}, Rep base w P L r → Below w.heap.size w w' → Rep base w' P L r
  open_ : ∀ {base : Nat} {w : World} {D : Nat} {F : Nat → Prop} (n mid : Nat) (h : DkF base w D (newD n) F) (hw : base ≤ w.heap.size) (h1 : 2 ≤ mid) (h2 : mid < n) (h3 : n ≤ 200),
    Calls Try.prog 6 #[ptD D, .int .i64 0, .int .i64 (mid : Int), .int .i64 (n : Int)] w fun x w' => ∃ P, x = .returned (.tuple #[ptD P, .int .i64 0]) ∧ Rep base w' P [] (mid - 1) ∧ Below base w w'
  put_new : ∀ {base : Nat} {w : World} {P : Nat} {L : List (List Nat)} {r : Nat} (h : Rep base w P L r) (hw : base ≤ w.heap.size) (s : ByteArray) (hs : s.size ≤ 150) (hn : sumL s ∉ L.map nmB) (hl : L.length < 20) (hr : secK (1 + s.size) ≤ r),
    Calls Try.prog 7 #[ptD P, .string s] w fun x w' => x = .returned (.tuple #[agN (sumL s), .int .i64 0]) ∧ Rep base w' P (L ++ [sl s]) (r - secK (1 + s.size)) ∧ Below base w w'
  put_old : ∀ {base : Nat} {w : World} {P : Nat} {L : List (List Nat)} {r : Nat} (h : Rep base w P L r) (hw : base ≤ w.heap.size) (s : ByteArray) (hs : s.size ≤ 150) (hn : sumL s ∈ L.map nmB),
    Calls Try.prog 7 #[ptD P, .string s] w fun x w' => x = .returned (.tuple #[agN (sumL s), .int .i64 0]) ∧ Rep base w' P L r ∧ Below base w w'
  put_full : ∀ {base : Nat} {w : World} {P : Nat} {L : List (List Nat)} {r : Nat} (h : Rep base w P L r) (hw : base ≤ w.heap.size) (s : ByteArray) (hs : s.size ≤ 150) (hn : sumL s ∉ L.map nmB) (hl : L.length = 20),
    Calls Try.prog 7 #[ptD P, .string s] w fun x w' => x = .returned (.tuple #[agN (List.replicate 32 0), .int .i64 150]) ∧ Rep base w' P L r ∧ Below base w w'
  get_some : ∀ {base : Nat} {w : World} {P : Nat} {L : List (List Nat)} {r : Nat} (h : Rep base w P L r) (hw : base ≤ w.heap.size) (s : ByteArray) (hs : sl s ∈ L),
    Calls Try.prog 12 #[ptD P, agN (sumL s)] w fun x w' => x = .returned (.tuple #[.string s, .int .i64 0]) ∧ Below w.heap.size w w'
  get_none : ∀ {base : Nat} {w : World} {P : Nat} {L : List (List Nat)} {r : Nat} (h : Rep base w P L r) (hw : base ≤ w.heap.size) (l : List Int) (h32 : l.length = 32) (ho : Octets l) (hn : l ∉ L.map nmB),
    Calls Try.prog 12 #[ptD P, agN l] w fun x w' => x = .returned (.tuple #[.string ⟨#[]⟩, .int .i64 3]) ∧ Below w.heap.size w w'
  all : ∀ {base : Nat} {w : World} {P : Nat} {L : List (List Nat)} {r : Nat} (h : Rep base w P L r) (hw : base ≤ w.heap.size),
    Calls Try.prog 10 #[ptD P] w fun x w' => ∃ p c, x = .returned (.slice p L.length c) ∧ Below w.heap.size w w'
  room : ∀ {base : Nat} {w : World} {P : Nat} {L : List (List Nat)} {r : Nat} (h : Rep base w P L r) (hw : base ≤ w.heap.size),
    Calls Try.prog 8 #[ptD P] w fun x w' => x = .returned (.int .i64 (r : Int)) ∧ Below w.heap.size w w'
theorem alloc_h32S (w : World) : (Instr.alloc 30 true (.tuple #[])).run Try.prog w = .ok (.pointer (some ⟨w.heap.size, 0, none⟩)) (w.alloc (.cells (ints .u8 (List.replicate 32 0)).toArray 30)) := by kernel_rfl
theorem build_h32S (w : World) : (Instr.build 30 #[]).run Try.prog w = .ok (.agg (ints .u8 (List.replicate 32 0)).toArray) w := by kernel_rfl
theorem ints_one' (l : List Int) : (ints .u8 l).toArray.all (·.oneCell') = true := ints_one _ _
set_option maxRecDepth 100000 in
set_option maxHeartbeats 1000000 in
theorem l15_shown (K : StoreKit) (w : World) :
    Calls Try.prog 5 #[] w fun e w' => e = .returned (.bool true) ∧ Below w.heap.size w w' := by
  have HN := Lib.hid (d_New_yes 20 w w.heap.size (by decide) (by decide) (Nat.le_refl _))
  have HO := Lib.hid (fun (wx : World) (D : Nat) (F : Nat → Prop) (h : DkF w.heap.size wx D (newD 20) F) (hw : w.heap.size ≤ wx.heap.size) => K.open_ 20 10 h hw (by decide) (by decide) (by decide))
  obtain ⟨s, hs⟩ : ∃ s : ByteArray, s = ⟨#[97, 98, 99]⟩ := ⟨_, rfl⟩
  have hsz : s.size = 3 := by rw [hs]; rfl
  have hzn : sumL s ≠ List.replicate 32 0 := by rw [hs]; exact abc_ne
  have HP := Lib.hid (fun (wx : World) (P : Nat) (h : K.Rep w.heap.size wx P [] (10 - 1)) (hw : w.heap.size ≤ wx.heap.size) => K.put_new h hw s (by omega) (by simp) (by decide) (by rw [hsz]; decide))
  have HG := Lib.hid (fun (wx : World) (P r : Nat) (h : K.Rep w.heap.size wx P ([] ++ [sl s]) r) (hw : w.heap.size ≤ wx.heap.size) => K.get_some h hw s (by simp))
  have HG0 := Lib.hid (fun (wx : World) (P r : Nat) (h : K.Rep w.heap.size wx P ([] ++ [sl s]) r) (hw : w.heap.size ≤ wx.heap.size) => K.get_none h hw (List.replicate 32 0) (by decide) (fun x hx => by rw [List.eq_of_mem_replicate hx]; decide) (by simp [nmB_sl]; exact fun e => hzn e.symm))
  have HSU := Lib.hid (fun wx => r_Sum' s wx (by omega))
  have he := eql_hash (sumL s) (sumL_octets s) (sumL_len s)
  have hl : (ints .u8 (sumL s)).length = 32 := by rw [ints_length, sumL_len]
  have hsame := txt_same s
  rw [hs] at HP HG HSU hsame
  unfold agN at HP HG HG0
  rw [hs] at he hl HG0
  generalize sumL ⟨#[97, 98, 99]⟩ = H at *
  generalize sl ⟨#[97, 98, 99]⟩ = SL at *
  have HLL := Lib.hid hl
  have HE := Lib.hid he
  clear hzn hsz hs hl
  go_enter Try.func5, Try.ntmps5
  go_wp2_with fail
  refine HN.out.mono ?_
  rintro e v1 ⟨D, F1, rfl, r1, c1, _⟩
  have R1 := Lib.hid r1
  have B1 := Lib.hid c1
  clear r1 c1
  unfold ptD
  go_wp2_with fail
  refine (HO.out v1 D F1 R1.out B1.out.size).mono ?_
  rintro e v2 ⟨P, rfl, r2, c2⟩
  have R2 := Lib.hid r2
  have B2 := Lib.hid (B1.out.trans c2)
  clear r2 c2
  unfold ptD
  go_wp2_with fail
  refine (HP.out v2 P R2.out B2.out.size).mono ?_
  rintro e v3 ⟨rfl, r3, c3⟩
  have b3 := B2.out.trans c3
  have k1 := Blk.new' v3 30 (c := (ints .u8 (List.replicate 32 0)).toArray) (ints .u8 (List.replicate 32 0)) rfl
  have hnb := (Below.refl v3.heap.size v3).alloc (Nat.le_refl _) (.cells (ints .u8 (List.replicate 32 0)).toArray 30)
  have k2 := k1.row (ints .u8 H) (by rw [HLL.out]; decide)
  have kb := below_setRow hnb (Nat.le_refl v3.heap.size) (ints .u8 H).toArray
  have K1 := Lib.hid k1
  have K2 := Lib.hid k2
  have R4 := Lib.hid (K.keep r3 kb)
  have B4 := Lib.hid (b3.trans (kb.mono b3.size))
  have HSZ : Hid ((Try.prog.info? 30).map (·.size) = some (ints .u8 H).length) := Lib.hid (by rw [HLL.out]; kernel_rfl)
  obtain ⟨B, hB⟩ : ∃ B, v3.heap.size = B := ⟨_, rfl⟩
  rw [hB] at K1 K2
  have hB4 : B + 1 = ((v3.alloc (.cells (ints .u8 (List.replicate 32 0)).toArray 30)).setRow B (ints .u8 H).toArray).heap.size := by rw [← hB]; simp
  rw [hB] at R4 B4
  obtain ⟨v4, hv4⟩ : ∃ v4, (v3.alloc (.cells (ints .u8 (List.replicate 32 0)).toArray 30)).setRow B (ints .u8 H).toArray = v4 := ⟨_, rfl⟩
  rw [hv4] at K2 R4 B4 hB4
  clear r3 c3 b3 k1 hnb k2 kb hB4
  go_wp2_with (first | (refine wpList_alloc_n rfl 30 rfl B hB _ (alloc_h32S _) ?_) | (refine wpList_store_blk rfl 30 _ _ rfl B (ints .u8 H) rfl rfl K1.out HSZ.out (by rw [HLL.out]; decide) (ints_one' H) ?_; rw [hv4]) | (refine wpList_load_blk rfl 30 _ rfl B rfl K2.out Try.underlying30 rfl HSZ.out ?_))
  refine (HG.out v4 P _ R4.out B4.out.size).mono ?_
  rintro e v5 ⟨rfl, c5⟩
  have R5 := Lib.hid (K.keep R4.out c5)
  have B5 := Lib.hid (B4.out.trans (c5.mono B4.out.size))
  have K5 := Lib.hid (K2.out.below c5 K2.out.lt)
  clear c5
  go_wp2_with (refine wpList_build_at rfl 30 _ rfl _ (by simp only [List.map_toArray, List.map_nil]; exact build_h32S _) ?_)
  refine (HG0.out v5 P _ R5.out B5.out.size).mono ?_
  rintro e v6 ⟨rfl, c6⟩
  have B6 := Lib.hid (B5.out.trans (c6.mono B5.out.size))
  have k6 := K5.out.below c6 K5.out.lt
  have hrg : ∀ wx, NewBut v6 wx → wx.rangeAt B 0 (ints .u8 H) := fun wx hx => (k6.below hx k6.lt).whole
  have hsu : ∀ wx, NewBut v6 wx → Calls Try.prog 9 #[.string ⟨#[97, 98, 99]⟩] wx fun e w' => e = .returned (.agg (ints .u8 H).toArray) ∧ NewBut v6 w' := fun wx hx => (HSU.out wx).mono fun _ _ ⟨e1, e2⟩ => ⟨e1, hx.trans (e2.mono hx.size)⟩
  have HRG := Lib.hid hrg
  have HS2 := Lib.hid hsu
  have hE := HE.out
  clear c6 k6 hrg hsu
  go_wp2_with fail
  refine region_quiet_tail (C := NewBut v6) 19 mixed (by kernel_rfl) (show Below _ _ _ from (Below.refl _ _).drew) ?_
  simp only [List.take_succ_cons, List.take_zero, List.drop_succ_cons, List.drop_zero]
  repeat (first | (refine wpQuiet_load_row rfl 30 _ rfl B 0 rfl (ints .u8 H) HRG.out Try.underlying30 rfl HSZ.out ?_) | go_big_quiet_step (fail) | (refine wpQuiet_step (fun K' hK' => ?_); go_simp; first | (refine hK' _ ?_; clear hK' K') | (refine ⟨_, fun _ _ => rfl, hK' _ ?_⟩; clear hK' K') | (refine ⟨_, fun wx _ => hE wx, hK' _ ?_⟩; clear hK' K') | ((with_reducible refine ⟨_, fun wx hx => HS2.out wx hx, hK' _ ?_⟩); clear hK' K')))
  refine wpQuiet_nil ?_
  intro v7 hb7
  have B7 := Lib.hid (B6.out.trans (Below.mono hb7 B6.out.size))
  clear hb7
  go_wp2
  go_ret
  exact ⟨rfl, B7.out⟩
end Go.Proofs.Ytbobdbdknapdcaa
