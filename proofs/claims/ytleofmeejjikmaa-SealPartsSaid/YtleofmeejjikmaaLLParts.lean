/-
  For all keys, nonces and texts: what is sealed begins by its nonce; what is behind is the text, made unreadable by the first key, and the seal of both by the second. Longer keys and texts than the bound are answered by the case shown alone. No condition.
-/
import Derived.Test.YtleofmeejjikmaaRows
import Derived.Test.YtleofmeejjikmaaLTwo
import Derived.Test.YtleofmeejjikmaaG1
import Derived.Test.YtleofmeejjikmaaG2
import Derived.ShutString
import Derived.ChangeOld
namespace Go.Proofs.Ytleofmeejjikmaa.sealParts
open Go.ChangeShapes Go.WideShapes Go.ChangeAt Go.RowKit
open Go.ChangeMaps (open_string shut_string)
set_option linter.unusedVariables false

def lpF (key : ByteArray) (nc : List Nat) (s Z : ByteArray) (A B : List Nat) (x y1 y2 : Nat) (u : Nat → Value) : Array Value :=
  ((.string key : Value) :: (.agg (ints .u8 (nn nc)).toArray : Value) :: (.string s : Value) :: (undef : Value) :: (.pointer (some ⟨x, 0, none⟩) : Value) :: (undef : Value) :: (.bool false : Value) :: (.string Z : Value) :: (.pointer (some ⟨y1, 0, none⟩) : Value) :: (.pointer (some ⟨y1 + 1, 0, none⟩) : Value) :: (.pointer (some ⟨y2, 0, none⟩) : Value) :: (.bool true : Value) :: (u 8 : Value) :: (.string key : Value) :: (.int .i64 (key.size : Int) : Value) :: (.bool false : Value) :: (.bool false : Value) :: (.string s : Value) :: (.int .i64 (s.size : Int) : Value) :: (.bool false : Value) :: (.bool false : Value) :: (.bool false : Value) :: (.bool true : Value) :: (.bool false : Value) :: (.bool false : Value) :: (undef : Value) :: (.string key : Value) :: (.agg (ints .u8 (nn nc)).toArray : Value) :: (.string s : Value) :: (.string Z : Value) :: (.tuple #[.agg (ints .u8 (nn A)).toArray, .agg (ints .u8 (nn B)).toArray] : Value) :: (.string key : Value) :: (.tuple #[.agg (ints .u8 (nn A)).toArray, .agg (ints .u8 (nn B)).toArray] : Value) :: (.agg (ints .u8 (nn A)).toArray : Value) :: (.agg (ints .u8 (nn B)).toArray : Value) :: (.string Z : Value) :: (.int .i64 ((s.size : Int) + 48) : Value) :: (.string s : Value) :: (.int .i64 (s.size : Int) : Value) :: (.int .i64 ((s.size : Int) + 48) : Value) :: (.bool false : Value) :: (.tuple #[.agg (ints .u8 (nn nc)).toArray, .bool true] : Value) :: (.string Z : Value) :: (.tuple #[.agg (ints .u8 (nn nc)).toArray, .bool true] : Value) :: (.agg (ints .u8 (nn nc)).toArray : Value) :: (.bool true : Value) :: (u 0 : Value) :: (u 1 : Value) :: (u 2 : Value) :: (u 3 : Value) :: (u 4 : Value) :: (u 5 : Value) :: (u 6 : Value) :: (u 7 : Value) :: (undef : Value) :: (undef : Value) :: (undef : Value) :: (undef : Value) :: (undef : Value) :: (undef : Value) :: (undef : Value) :: (undef : Value) :: (undef : Value) :: (undef : Value) :: (undef : Value) :: (undef : Value) :: (undef : Value) :: (undef : Value) :: (undef : Value) :: (undef : Value) :: (undef : Value) :: (undef : Value) :: (undef : Value) :: (undef : Value) :: (undef : Value) :: (undef : Value) :: (undef : Value) :: (undef : Value) :: (undef : Value) :: (undef : Value) :: (undef : Value) :: (undef : Value) :: []).toArray
def lpS (base : Nat) (s Z : ByteArray) (B O : List Nat) (tB V : ByteArray) (n : Nat) (i : Nat) (v : Value) (W : World) : Prop :=
  match i with
  | 0 => v = .agg (ints .u8 (nn B)).toArray
  | 1 => v = .string tB
  | 2 => v = .string Z
  | 3 => v = .string s
  | 4 => v = .int .i64 (s.size : Int)
  | 5 => v = .int .i64 (n : Int)
  | 6 => v = .string V
  | 7 => v = .agg (ints .u8 (nn O)).toArray
  | 8 => ∃ b, base ≤ b ∧ v = .pointer (some ⟨b, 0, none⟩) ∧ Blk W b 29 (ints .u8 (nn (zerN 32)))
  | _ => True
set_option maxHeartbeats 4000000 in
set_option maxRecDepth 100000 in
theorem walk (key : ByteArray) (nc : List Nat) (s : ByteArray) (n0 : key.size ≤ maxLen) (n1 : nc.length = 16) (o1 : Bys nc) (n2 : s.size ≤ maxLen) (w : World) :
    Calls Try.prog 5 #[.string key, .agg (ints .u8 (nn nc)).toArray, .string s] w fun e w' => e = .returned (.bool true) ∧ Below w.heap.size w w' := by
  have HS := Lib.hid (fun w => l5_shown w)
  have kb := (Below.refl w.heap.size w).alloc (Nat.le_refl _) (.cells (ints .u8 (nn nc)).toArray 23)
  by_cases h1 : 100 < key.size
  · have g1 : (100 : Int) < (key.size : Int) := by omega
    go_enter Try.func5, Try.ntmps5
    go_wp2_with (go_at_call 7; (with_reducible refine (HS.out _).mono ?_); rintro e w1 ⟨rfl, hb1⟩)
    go_ret
    exact ⟨rfl, kb.trans (hb1.mono kb.size)⟩
  have g1 : ¬ (100 : Int) < (key.size : Int) := by omega
  by_cases h2 : 300 < s.size
  · have g2 : (300 : Int) < (s.size : Int) := by omega
    go_enter Try.func5, Try.ntmps5
    go_wp2_with (go_at_call 7; (with_reducible refine (HS.out _).mono ?_); rintro e w1 ⟨rfl, hb1⟩)
    go_ret
    exact ⟨rfl, kb.trans (hb1.mono kb.size)⟩
  have g2 : ¬ (300 : Int) < (s.size : Int) := by omega
  have hK := fun w => l_Keys key w (by omega)
  have hz := sealT_size key s n1
  have hN := fun w => l_Nonce (sealT key nc s) w (by omega)
  rw [nonce_seal key s n1 o1, show decide (16 ≤ (sealT key nc s).size) = true by simp; omega] at hN
  have hA := fun w => l_Seal key nc s w (by omega) n1 o1 (by omega)
  have lA : (keyA key).length = 32 := macN_len _ _
  have lB : (keyB key).length = 32 := macN_len _ _
  have hT := hidT_size (keyA key) nc s
  have hRA := fun w => r_Hid (keyA key) nc s w lA (macN_bys _ _) n1 o1 (by omega)
  have hBB := fun w => r_BytesN (keyB key) w lB
  obtain ⟨n, hn⟩ : ∃ n, 16 + s.size = n := ⟨_, rfl⟩
  have hsl := sl_sealT key s o1
  have tV : (sealT key nc s).extract 0 n = aheadT nc (hidT (keyA key) nc s) := by
    apply sl_inj
    rw [sl_head, hsl, ← List.append_assoc, List.take_append_of_le_length (by rw [List.length_append, n1, sl_len, hT]; omega), List.take_of_length_le (by rw [List.length_append, n1, sl_len, hT]; omega)]
    unfold aheadT
    rw [sl_app, sl_tx o1]
  have tT : (sealT key nc s).extract 16 n = hidT (keyA key) nc s := by
    apply sl_inj
    have e : sl ((sealT key nc s).extract 16 n) = ((sl (sealT key nc s)).take n).drop 16 := by
      simp [sl, ByteArray.data_extract, List.map_take, List.map_drop]
      rw [List.drop_take]
    rw [e, hsl, ← List.append_assoc, List.take_append_of_le_length (by rw [List.length_append, n1, sl_len, hT]; omega), List.take_of_length_le (by rw [List.length_append, n1, sl_len, hT]; omega), List.drop_append_of_le_length (by omega), List.drop_of_length_le (by omega), List.nil_append]
  have tO : (sealT key nc s).extract n (sealT key nc s).size = tx (sealN key nc (hidT (keyA key) nc s)) := by
    apply sl_inj
    rw [sl_tail, hsl, ← List.append_assoc, List.drop_append_of_le_length (by rw [List.length_append, n1, sl_len, hT]; omega), List.drop_of_length_le (by rw [List.length_append, n1, sl_len, hT]; omega), List.nil_append, sl_tx (sealN_bys _ _ _)]
  have hM : ∀ w, Calls Try.prog 16 #[.string (tx (keyB key)), .string ((sealT key nc s).extract 0 n)] w fun e w' => e = .returned (.agg (ints .u8 (nn (sealN key nc (hidT (keyA key) nc s)))).toArray) ∧ Below w.heap.size w w' := fun w => by
    rw [tV]
    exact r_MacN _ _ w (by rw [tx_size, lB]; omega) (by rw [aheadT_size _ n1]; omega)
  have lO := sealN_len key nc (hidT (keyA key) nc s)
  have hBO := fun w => r_BytesN (sealN key nc (hidT (keyA key) nc s)) w lO
  have txT : (((sealT key nc s).extract 16 n).toList == (hidT (keyA key) nc s).toList) = true := txt_eq tT
  have txO : (((sealT key nc s).extract n (sealT key nc s).size).toList == (tx (sealN key nc (hidT (keyA key) nc s))).toList) = true := txt_eq tO
  have t1 : ((sealT key nc s).size : Int) = (s.size : Int) + 48 := by omega
  have t3 : (n : Int) ≤ ((sealT key nc s).size : Int) := by omega
  clear tV tT tO hsl hz hT
  generalize sealT key nc s = Z at *
  generalize sealN key nc (hidT (keyA key) nc s) = O at *
  generalize hidT (keyA key) nc s = T at *
  generalize keyA key = A at *
  generalize keyB key = B at *
  generalize tx B = tB at *
  generalize tx O = tO at *
  have t2 : IntKind.i64.wrap ((s.size : Int) + 48) = (s.size : Int) + 48 := IntWalk.i64_in _ (by omega)
  have e1 : IntKind.i64.wrap (16 + (s.size : Int)) = (n : Int) := by rw [IntWalk.i64_in _ (by omega)]; omega
  have e2 : (n : Int).toNat = n := by omega
  have e3 : (16 : Int) ≤ (n : Int) := by omega
  have e5 : (0 : Int) ≤ (n : Int) := by omega
  have eqN := eql_same nc n1
  have HK := Lib.hid hK
  have HN := Lib.hid hN
  have HA := Lib.hid hA
  have HRA := Lib.hid hRA
  have HBB := Lib.hid hBB
  have HM := Lib.hid hM
  have HBO := Lib.hid hBO
  have LA := Lib.hid lA
  have LB := Lib.hid lB
  have LO := Lib.hid lO
  have L1 := Lib.hid n1
  have k0 := Lib.hid (Blk.new w 23 (ints .u8 (nn nc)))
  have kb := Lib.hid kb
  clear hK hN hA hRA hBB hM hBO lA lB lO n1 o1 hn
  go_enter Try.func5, Try.ntmps5
  go_wp2_with fail
  refine (HS.out _).mono ?_
  rintro e w1 ⟨rfl, hb1⟩
  have b1 := Lib.hid (k0.out.below hb1 k0.out.lt)
  have a1 := kb.out.trans (hb1.mono kb.out.size)
  go_wp2_with (refine wpList_load_blk rfl 23 _ rfl w.heap.size rfl b1.out Try.underlying23 rfl (by rw [size_b16', nc_len L1.out]) ?_)
  refine (HA.out _).mono ?_
  rintro e w3 ⟨rfl, hb3⟩
  go_wp2_with fail
  refine (HK.out _).mono ?_
  rintro e w4 ⟨rfl, hb4⟩
  have a3 := a1.trans (hb3.mono a1.size)
  have a4 := a3.trans (hb4.mono a3.size)
  have b3 := b1.out.below hb3 b1.out.lt
  have b4 := b3.below hb4 b3.lt
  obtain ⟨P1, Q2, M1, M2, Mb⟩ := two_hash w4 A B LA.out LB.out
  have J0 := b4.below Mb b4.lt
  have Jb := a4.trans (Mb.mono a4.size)
  have P1 := Lib.hid P1
  have Q2 := Lib.hid Q2
  have M1 := Lib.hid M1
  have M2 := Lib.hid M2
  have J0 := Lib.hid J0
  have Jb := Lib.hid Jb
  clear hb1 hb3 hb4 a1 a3 a4 b1 b3 b4 Mb
  go_wp2_with (first | (refine wpList_alloc_n rfl 29 rfl w4.heap.size rfl _ (alloc_hash _) ?_) | (refine wpList_alloc_n rfl 29 rfl (w4.heap.size + 1) (by simp) _ (alloc_hash _) ?_) | (refine wpList_store_blk rfl 29 _ _ rfl w4.heap.size (ints .u8 (nn A)) rfl rfl P1.out (by rw [size_hash, ints_length, nn_length, LA.out]) (by rw [ints_length, ints_length, nn_length, nn_length, LA.out]; rfl) (ints_one _ _) ?_) | (refine wpList_store_blk rfl 29 _ _ rfl (w4.heap.size + 1) (ints .u8 (nn B)) rfl rfl Q2.out (by rw [size_hash, ints_length, nn_length, LB.out]) (by rw [ints_length, ints_length, nn_length, nn_length, LB.out]; rfl) (ints_one _ _) ?_))
  refine (HN.out _).mono ?_
  rintro e w6 ⟨rfl, hb6⟩
  have c0 := J0.out.below hb6 J0.out.lt
  have c1 := M1.out.below hb6 M1.out.lt
  have c2 := M2.out.below hb6 M2.out.lt
  have cb := Jb.out.trans (hb6.mono Jb.out.size)
  clear P1 Q2 M1 M2 J0 Jb hb6
  generalize w4.heap.size = y1 at *
  obtain ⟨P3, M3, Mb⟩ := one_16 w6 23 nc L1.out
  have d0 := c0.below Mb c0.lt
  have d1 := c1.below Mb c1.lt
  have d2 := c2.below Mb c2.lt
  have db := cb.trans (Mb.mono cb.size)
  have P3 := Lib.hid P3
  have M3 := Lib.hid M3
  have d0 := Lib.hid d0
  have d1 := Lib.hid d1
  have d2 := Lib.hid d2
  have db := Lib.hid db
  clear c0 c1 c2 cb Mb
  go_wp2_with (first | (refine wpList_alloc_n rfl 23 rfl w6.heap.size rfl _ (alloc_b16 _) ?_) | (refine wpList_store_blk rfl 23 _ _ rfl w6.heap.size (ints .u8 (nn nc)) rfl rfl P3.out (by rw [size_b16', nc_len L1.out]) (by rw [nc_len L1.out]; rfl) (ints_one _ _) ?_))
  have q0 := d0.out
  have q1 := d1.out
  have q2 := d2.out
  have q3 := M3.out
  have qb := db.out
  clear P3 M3 d0 d1 d2 db
  generalize World.setRow (World.alloc w6 _) _ _ = w8 at *
  generalize w6.heap.size = y2 at *
  have t4 : (n : Int) ≤ (s.size : Int) + 48 := by omega
  have e6 : IntKind.i64.wrap (n : Int) = (n : Int) := IntWalk.i64_in _ (by omega)
  have hL0 : ∀ wx, NewBut w8 wx → Blk wx w.heap.size 23 (ints .u8 (nn nc)) := fun wx hx => q0.below hx q0.lt
  have hL1 : ∀ wx, NewBut w8 wx → Blk wx y1 29 (ints .u8 (nn A)) := fun wx hx => q1.below hx q1.lt
  have hL2 : ∀ wx, NewBut w8 wx → Blk wx (y1 + 1) 29 (ints .u8 (nn B)) := fun wx hx => q2.below hx q2.lt
  have hL3 : ∀ wx, NewBut w8 wx → Blk wx y2 23 (ints .u8 (nn nc)) := fun wx hx => q3.below hx q3.lt
  have l0 := q0.lt
  have l1 := q1.lt
  have l3 := q3.lt
  have HL0 := Lib.hid hL0
  have HL1 := Lib.hid hL1
  have HL2 := Lib.hid hL2
  have HL3 := Lib.hid hL3
  clear q0 q1 q2 q3 hL0 hL1 hL2 hL3
  obtain ⟨V, hV⟩ : ∃ V, Z.extract 0 n = V := ⟨_, rfl⟩
  rw [hV] at HM
  refine region_free_last 9 mixed (by kernel_rfl) (by kernel_rfl) (lpF key nc s Z A B w.heap.size y1 y2) [] (fun _ => undef) rfl (NewBut w8) (show Below _ _ _ from (Below.refl _ _).drew) (lpS w8.heap.size s Z B O tB V n) ?mono ?step ?last
  case mono =>
    intro i v W W' hv hC hC' hb
    match i with
    | 0 | 1 | 2 | 3 | 4 | 5 | 6 | 7 => exact hv
    | 8 =>
      obtain ⟨b, h1, h2, h3⟩ := hv
      exact ⟨b, h1, h2, h3.below hb h3.lt⟩
    | _ + 9 => trivial
  case step =>
    intro u W i o hi ho hC hd
    have hr := Below.refl W.heap.size W
    rcases i with _ | _ | _ | _ | _ | _ | _ | _ | _ | i
    all_goals try (simp only [List.getElem?_cons_zero, List.getElem?_cons_succ, Option.some.injEq] at ho; subst ho)
    · unfold lpF; go_wp2_with (refine wpList_load_blk rfl 29 _ rfl (y1 + 1) rfl (HL2.out _ hC) Try.underlying29 rfl (by rw [size_hash, ints_length, nn_length, LB.out]) ?_)
      exact ⟨_, rfl, rfl, hC, hr⟩
    · have h0 : u 0 = _ := hd ⟨0, .data⟩ (by simp) rfl
      unfold lpF
      rw [h0]
      go_wp2_with ((with_reducible refine (HBB.out _).mono ?_); rintro e w5 ⟨rfl, hb5⟩)
      exact ⟨_, by simp [upd, h0], rfl, hC.trans (hb5.mono hC.size), hb5⟩
    · unfold lpF; go_wp2_with fail
      exact ⟨_, rfl, rfl, hC, hr⟩
    · unfold lpF; go_wp2_with fail
      exact ⟨_, rfl, rfl, hC, hr⟩
    · have h3 : u 3 = _ := hd ⟨3, .data⟩ (by simp) rfl
      unfold lpF
      rw [h3]
      go_wp2_with fail
      exact ⟨_, by simp [upd, h3], rfl, hC, hr⟩
    · have h4 : u 4 = _ := hd ⟨4, .data⟩ (by simp) rfl
      unfold lpF
      rw [h4]
      go_wp2_with fail
      exact ⟨_, by simp [upd, h4], rfl, hC, hr⟩
    · have h2 : u 2 = _ := hd ⟨2, .data⟩ (by simp) rfl
      have h5 : u 5 = _ := hd ⟨5, .data⟩ (by simp) rfl
      unfold lpF
      rw [h2, h5]
      go_wp2_with fail
      exact ⟨.string V, by simp [upd, h2, h5], rfl, hC, hr⟩
    · have h1 : u 1 = _ := hd ⟨1, .data⟩ (by simp) rfl
      have h6 : u 6 = _ := hd ⟨6, .data⟩ (by simp) rfl
      unfold lpF
      rw [h1, h6]
      go_wp2_with ((with_reducible refine (HM.out _).mono ?_); rintro e w5 ⟨rfl, hb5⟩)
      exact ⟨_, by simp [upd, h1, h6], rfl, hC.trans (hb5.mono hC.size), hb5⟩
    · have hz := hC.size
      unfold lpF
      go_wp2_with (refine wpList_alloc_n rfl 29 rfl W.heap.size rfl _ (alloc_hash _) ?_)
      exact ⟨_, rfl, ⟨W.heap.size, hz, rfl, Blk.new W _ _⟩, Below.alloc hC hz _, hr.alloc (Nat.le_refl _) _⟩
    · omega
  case last =>
    intro u W o ho hC hS
    simp only [List.getElem?_cons_zero, List.getElem?_cons_succ, Option.some.injEq] at ho
    subst ho
    have h7 : u 7 = .agg (ints .u8 (nn O)).toArray := hS 7 (by decide)
    obtain ⟨b, hb, h8, hB⟩ : ∃ b, w8.heap.size ≤ b ∧ u 8 = .pointer (some ⟨b, 0, none⟩) ∧ Blk W b 29 (ints .u8 (nn (zerN 32))) := hS 8 (by decide)
    have E0 := (HL0.out _ hC).rowOther (g := b) (by omega) (ints .u8 (nn O)).toArray
    have E1 := (HL1.out _ hC).rowOther (g := b) (by omega) (ints .u8 (nn O)).toArray
    have E3 := (HL3.out _ hC).rowOther (g := b) (by omega) (ints .u8 (nn O)).toArray
    have Eb := below_setRow (qb.trans (hC.mono qb.size)) (b := b) (by omega) (ints .u8 (nn O)).toArray
    have EB := hB.row (ints .u8 (nn O)) (by rw [ints_length, ints_length, nn_length, nn_length, LO.out]; rfl)
    have E0 := Lib.hid E0
    have E1 := Lib.hid E1
    have E3 := Lib.hid E3
    have Eb := Lib.hid Eb
    have EB := Lib.hid EB
    have hB := Lib.hid hB
    unfold lpF
    rw [h7, h8]
    clear hS h7 h8
    generalize u 0 = u0
    generalize u 1 = u1
    generalize u 2 = u2
    generalize u 3 = u3
    generalize u 4 = u4
    generalize u 5 = u5
    generalize u 6 = u6
    go_wp2_with (refine wpList_store_blk rfl 29 _ _ rfl b (ints .u8 (nn O)) rfl rfl hB.out (by rw [size_hash, ints_length, nn_length, LO.out]) (by rw [ints_length, ints_length, nn_length, nn_length, LO.out]; rfl) (ints_one _ _) ?_)
    have F0 := E0.out
    have F1 := E1.out
    have F3 := E3.out
    have FB := EB.out
    have Fb := Eb.out
    clear E0 E1 E3 Eb EB hB
    generalize World.setRow W _ _ = w9 at *
    have v0 := Lib.hid (fun wx (hx : NewBut w9 wx) => (F0.below hx F0.lt).whole)
    have v1 := Lib.hid (fun wx (hx : NewBut w9 wx) => (F1.below hx F1.lt).whole)
    have v3 := Lib.hid (fun wx (hx : NewBut w9 wx) => (F3.below hx F3.lt).whole)
    have vB := Lib.hid (fun wx (hx : NewBut w9 wx) => (FB.below hx FB.lt).whole)
    have HR1 := Lib.hid (inBut (wr := w9) HRA.out)
    have HO1 := Lib.hid (inBut (wr := w9) HBO.out)
    clear F0 F1 F3 FB
    refine region_quiet_tail (C := NewBut w9) 28 mixed (by kernel_rfl) (show Below _ _ _ from (Below.refl _ _).drew) ?_
    simp only [List.take_succ_cons, List.take_zero, List.drop_succ_cons, List.drop_zero]
    repeat (first | (refine wpQuiet_load_row rfl 23 _ rfl w.heap.size 0 rfl (ints .u8 (nn nc)) v0.out Try.underlying23 rfl (by rw [size_b16', nc_len L1.out]) ?_) | (refine wpQuiet_load_row rfl 23 _ rfl y2 0 rfl (ints .u8 (nn nc)) v3.out Try.underlying23 rfl (by rw [size_b16', nc_len L1.out]) ?_) | (refine wpQuiet_load_row rfl 29 _ rfl y1 0 rfl (ints .u8 (nn A)) v1.out Try.underlying29 rfl (by rw [size_hash, ints_length, nn_length, LA.out]) ?_) | (refine wpQuiet_load_row rfl 29 _ rfl b 0 rfl (ints .u8 (nn O)) vB.out Try.underlying29 rfl (by rw [size_hash, ints_length, nn_length, LO.out]) ?_) | (refine wpQuiet_step (fun K' hK' => ?_); go_simp; first | (refine ⟨_, fun _ _ => rfl, hK' _ ?_⟩; clear hK' K') | ((with_reducible refine ⟨_, fun wx hx => HR1.out wx hx, hK' _ ?_⟩); clear hK' K') | ((with_reducible refine ⟨_, fun wx hx => HO1.out wx hx, hK' _ ?_⟩); clear hK' K')))
    refine wpQuiet_nil ?_
    intro w10 hb10
    go_wp2
    go_ret
    exact ⟨rfl, Fb.trans (hb10.mono Fb.size)⟩

set_option maxRecDepth 100000 in
theorem lifted (os : Os) (started : os.Started) (H : Type) (enc : TypeId × Value → H) :
    ReturnsInHanded {} Try.checked os 5 .any (Rows.sealPartsSpec.pre6 enc Try.prog Try.f5 Rows.sealPartsRow.domain false) (Rows.sealPartsSpec.post enc Try.prog Try.f5 false true false false) := by
  refine returnsInHanded_of_change (C := Try.checked) own started (by kernel_rfl) Try.func5
    (ChangeSpec.witness6 (enc := enc) (C := Try.checked) false ⟨#[], #[.string ByteArray.empty, .agg (ints .u8 (List.replicate 16 0)).toArray, .string ByteArray.empty], []⟩ 8 (by kernel_rfl) (by kernel_rfl) (by kernel_rfl) (by kernel_rfl)) ?_
  intro W base args ds gs before hval0 hW hcnd _
  have hval : ∀ (j : Nat) t v, Try.f5.params[j]? = some t → args[j]? = some v → Value.okWide Try.prog W .any base t v := hval0
  have hW' := hW
  obtain ⟨p, q, hA0, hV, rfl, hfz, hnd⟩ := hW
  have hA : DataW.TrodAll enc Try.prog W 0 (fun _ => true) true Try.f5.params.toList args.toList ds p := hA0
  rw [Try.params5] at hA hval
  obtain ⟨v0, vs0, d0, ds0, p0, q0, hargs, rfl, rfl, h0, r0⟩ := trodAll_cons hA
  obtain ⟨v1, vs1, d1, ds1, p1, q1, rfl, rfl, rfl, h1, r1⟩ := trodAll_cons r0
  obtain ⟨v2, vs2, d2, ds2, p2, q2, rfl, rfl, rfl, h2, r2⟩ := trodAll_cons r1
  obtain ⟨rfl, rfl, rfl⟩ := trodAll_nil r2
  obtain rfl : args = #[v0, v1, v2] := by cases args; simp_all
  obtain ⟨rfl, rfl⟩ := trodVars_none hV
  obtain ⟨l0, rfl, rfl, rfl, n0⟩ := open_string Try.underlying9 (hval 0 9 v0 rfl rfl) h0
  have k1 := h1
  have lt1 : ∀ x ∈ p1, x.block < W.heap.size := by obtain ⟨m, hm⟩ := k1; exact DataW.trod_lt m _ _ _ hm
  obtain ⟨cs1, hcs1, _, _⟩ : ∃ cs, v1 = .agg cs ∧ cs.size = Try.prog.cellsOf 23 ∧ Row.okWide Try.prog W .any base 23 cs := by
    have := hval 1 23 v1 rfl rfl
    simpa [Value.okWide, Try.underlying23] using this
  obtain ⟨l1, hl1, n1, o1⟩ := open_bys Try.underlying23 Try.underlying5 cells_u8 cells_b16 cs1 hcs1 h1
  obtain ⟨l2, rfl, rfl, rfl, n2⟩ := open_string Try.underlying9 (hval 2 9 v2 rfl rfl) h2
  clear hcs1
  subst hl1
  clear hA0 hval0
  simp only [List.append_nil] at hW'
  refine (walk l0 l1 l2 n0 n1 o1 n2 W).mono fun e W' ⟨he, bel⟩ => ?_
  subst he
  exact ⟨_, rfl, _, _, _, [], _, [], hW', trodAll_mk1 (shut_bool Try.underlying4 _), (trodAll_cons_mk (shut_string Try.underlying9 n0) (trodAll_cons_mk (Below.trod laidOut (by kernel_rfl) (of_decide_eq_true (by kernel_rfl)) k1 bel lt1) (trodAll_cons_mk (shut_string Try.underlying9 n2) trodAll_mk0))), rfl, bel.frame _, fun h => by cases h⟩

theorem over : Rows.sealPartsRow.holds Try.pinned (OpenSpec.ofChange Rows.sealPartsSpec) :=
  OpenClaim.holds_of_wide 5 Try.f5 rfl rfl rfl rfl rfl rfl rfl ⟨rfl, rfl, rfl, rfl, rfl⟩ rfl rfl rfl rfl rfl (by kernel_rfl) Try.func5 (by kernel_rfl)
    (of_decide_eq_true (by kernel_rfl)) (by unfold Func.isWrapper; first | (rw [if_pos (by decide +kernel)]; kernel_rfl) | (rw [if_neg (by decide +kernel)]; exact ⟨rfl, rfl⟩))
    (fun os started H enc _ => lifted os started H enc)

theorem proved : Rows.SealPartsSaid :=
  over
#print axioms proved
end Go.Proofs.Ytleofmeejjikmaa.sealParts
