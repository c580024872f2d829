/- Walk of seal's Seal. -/
import Derived.Test.YtleofmeejjikmaaLTaken
import Derived.Test.YtleofmeejjikmaaG1
namespace Go.Proofs.Ytleofmeejjikmaa
open Go.RowKit
set_option linter.unusedVariables false

theorem build_parts_l (a0 a1 a2 a3 a4 a5 a6 a7 a8 a9 a10 a11 a12 a13 a14 a15 : Nat) (m : ByteArray) (w : World) : (Instr.build 47 #[(0, .agg (ints .u8 (nn [a0, a1, a2, a3, a4, a5, a6, a7, a8, a9, a10, a11, a12, a13, a14, a15])).toArray), (1, .string m)]).run Try.prog w = .ok (.agg (prow [a0, a1, a2, a3, a4, a5, a6, a7, a8, a9, a10, a11, a12, a13, a14, a15] m (zerN 32)).toArray) w := by kernel_rfl
theorem build_parts (nc : List Nat) (m : ByteArray) (w : World) (hn : nc.length = 16) : (Instr.build 47 #[(0, .agg (ints .u8 (nn nc)).toArray), (1, .string m)]).run Try.prog w = .ok (.agg (prow nc m (zerN 32)).toArray) w := by
  match nc, hn with
  | [a0, a1, a2, a3, a4, a5, a6, a7, a8, a9, a10, a11, a12, a13, a14, a15], _ => exact build_parts_l a0 a1 a2 a3 a4 a5 a6 a7 a8 a9 a10 a11 a12 a13 a14 a15 m w
theorem alloc_hash (w : World) : (Instr.alloc 29 true (.tuple #[])).run Try.prog w = .ok (.pointer (some ⟨w.heap.size, 0, none⟩)) (w.alloc (.cells (ints .u8 (nn (zerN 32))).toArray 29)) := by kernel_rfl

def lsF (key : ByteArray) (nc : List Nat) (s : ByteArray) (A B : List Nat) (x y z : Nat) (u : Nat → Value) : Array Value :=
  #[.string key, .agg (ints .u8 (nn nc)).toArray, .string s, undef, .pointer (some ⟨x, 0, none⟩), undef, .string ⟨#[]⟩, .pointer (some ⟨y, 0, none⟩), .pointer (some ⟨z, 0, none⟩), u 6,
    .tuple #[.agg (ints .u8 (nn A)).toArray, .agg (ints .u8 (nn B)).toArray], .string key, .tuple #[.agg (ints .u8 (nn A)).toArray, .agg (ints .u8 (nn B)).toArray],
    .agg (ints .u8 (nn A)).toArray, .agg (ints .u8 (nn B)).toArray, u 0, u 1, u 2, u 3, u 4, u 5, undef, undef, undef, undef, undef, undef]
def lsS (base : Nat) (nc : List Nat) (s : ByteArray) (A : List Nat) (T : ByteArray) (ra : List Value) (i : Nat) (v : Value) (W : World) : Prop :=
  match i with
  | 0 => v = .agg (ints .u8 (nn nc)).toArray
  | 1 => v = .agg (ints .u8 (nn A)).toArray
  | 2 => v = .agg (ints .u8 (nn nc)).toArray
  | 3 => v = .string s
  | 4 => v = .string T
  | 5 => v = .agg ra.toArray
  | 6 => ∃ b, base ≤ b ∧ v = .pointer (some ⟨b, 0, none⟩) ∧ Blk W b 47 row0
  | _ => True
set_option maxRecDepth 100000 in
set_option maxHeartbeats 1000000 in
theorem l_Seal (key : ByteArray) (nc : List Nat) (s : ByteArray) (w : World) (hk : key.size ≤ 65536) (hn : nc.length = 16) (hnb : Bys nc) (hs : s.size ≤ 65536) :
    Calls Try.prog 14 #[.string key, .agg (ints .u8 (nn nc)).toArray, .string s] w fun e w' => e = .returned (.string (sealT key nc s)) ∧ Below w.heap.size w w' := by
  have hK := fun w => l_Keys key w hk
  have lA : (keyA key).length = 32 := macN_len _ _
  have lB : (keyB key).length = 32 := macN_len _ _
  have hH := fun w => s_Hid (keyA key) nc s w lA (macN_bys _ _) hn hnb hs
  have hT := hidT_size (keyA key) nc s
  have hS : ∀ w, Calls Try.prog 20 #[.agg (prow nc (hidT (keyA key) nc s) (zerN 32)).toArray, .agg (ints .u8 (nn (keyB key))).toArray] w fun e w' => e = .returned (.agg (ints .u8 (nn (sealN key nc (hidT (keyA key) nc s)))).toArray) ∧ Below w.heap.size w w' := fun w => l_sealBy nc _ _ _ w hn (zerN_len _) lB (by omega)
  have hJ : ∀ w, Calls Try.prog 24 #[.agg (prow nc (hidT (keyA key) nc s) (sealN key nc (hidT (keyA key) nc s))).toArray] w fun e w' => e = .returned (.string (sealT key nc s)) ∧ Below w.heap.size w w' := fun w => l_joined nc _ _ w hn (sealN_len _ _ _) (by omega)
  have lO := sealN_len key nc (hidT (keyA key) nc s)
  have hbu := fun w => build_parts nc (hidT (keyA key) nc s) w hn
  have r1 := prow_len (hidT (keyA key) nc s) hn (zerN_len 32)
  have r2 := prow_len (hidT (keyA key) nc s) hn lO
  have o1 := prow_one nc (hidT (keyA key) nc s) (zerN 32)
  have n1 : prow nc (hidT (keyA key) nc s) (zerN 32) = (ints .u8 (nn nc) ++ [Value.string (hidT (keyA key) nc s)]) ++ (ints .u8 (nn (zerN 32)) ++ []) := by simp [prow]
  have n2 : prow nc (hidT (keyA key) nc s) (sealN key nc (hidT (keyA key) nc s)) = (ints .u8 (nn nc) ++ [Value.string (hidT (keyA key) nc s)]) ++ (ints .u8 (nn (sealN key nc (hidT (keyA key) nc s))) ++ []) := by simp [prow]
  have n3 : 17 = (ints .u8 (nn nc) ++ [Value.string (hidT (keyA key) nc s)]).length := by rw [List.length_append, nc_len hn]; rfl
  generalize prow nc (hidT (keyA key) nc s) (sealN key nc (hidT (keyA key) nc s)) = rb at *
  generalize prow nc (hidT (keyA key) nc s) (zerN 32) = ra at *
  generalize sealT key nc s = Z at *
  generalize sealN key nc (hidT (keyA key) nc s) = O at *
  generalize hidT (keyA key) nc s = T at *
  generalize keyA key = A at *
  generalize keyB key = B at *
  have HK := Lib.hid hK
  have HH := Lib.hid hH
  have HS := Lib.hid hS
  have HJ := Lib.hid hJ
  have HBU := Lib.hid hbu
  have R1 := Lib.hid r1
  have R2 := Lib.hid r2
  have O1 := Lib.hid o1
  have N1 := Lib.hid n1
  have N2 := Lib.hid n2
  have N3 := Lib.hid n3
  have LA := Lib.hid lA
  have LB := Lib.hid lB
  have LN := Lib.hid hn
  have LO := Lib.hid lO
  have K0 := Lib.hid (Blk.new w 23 (ints .u8 (nn nc)))
  have Kb := Lib.hid ((Below.refl w.heap.size w).alloc (Nat.le_refl _) (.cells (ints .u8 (nn nc)).toArray 23))
  clear hK hH hS hJ hbu r1 r2 o1 n1 n2 n3 lA lB lO hn hT
  go_enter Try.func14, Try.ntmps14
  go_wp2_with fail
  refine (HK.out _).mono ?_
  rintro e w2 ⟨rfl, hb2⟩
  have J0 := K0.out.below hb2 K0.out.lt
  have Jb := Kb.out.trans (hb2.mono Kb.out.size)
  have hw2 := J0.lt
  have P1 : Blk ((w2.alloc (.cells (ints .u8 (nn (zerN 32))).toArray 29)).alloc (.cells (ints .u8 (nn (zerN 32))).toArray 29)) w2.heap.size 29 (ints .u8 (nn (zerN 32))) := (Blk.new w2 _ _).alloc _
  have P2 : Blk ((w2.alloc (.cells (ints .u8 (nn (zerN 32))).toArray 29)).alloc (.cells (ints .u8 (nn (zerN 32))).toArray 29)) (w2.heap.size + 1) 29 (ints .u8 (nn (zerN 32))) := Blk.newAt _ _ (by simp) _ _ rfl
  have M0 := (((J0.alloc (.cells (ints .u8 (nn (zerN 32))).toArray 29)).alloc (.cells (ints .u8 (nn (zerN 32))).toArray 29)).rowOther (g := w2.heap.size) (by omega) (ints .u8 (nn A)).toArray).rowOther (g := w2.heap.size + 1) (by omega) (ints .u8 (nn B)).toArray
  have Q2 := P2.rowOther (g := w2.heap.size) (by omega) (ints .u8 (nn A)).toArray
  have M1 := (P1.row (ints .u8 (nn A)) (by rw [ints_length, ints_length, nn_length, nn_length, LA.out]; rfl)).rowOther (g := w2.heap.size + 1) (by omega) (ints .u8 (nn B)).toArray
  have M2 := Q2.row (ints .u8 (nn B)) (by rw [ints_length, ints_length, nn_length, nn_length, LB.out]; rfl)
  have Mb := below_setRow (below_setRow ((Jb.alloc (by omega) (.cells (ints .u8 (nn (zerN 32))).toArray 29)).alloc (by simp; omega) (.cells (ints .u8 (nn (zerN 32))).toArray 29)) (b := w2.heap.size) (by omega) (ints .u8 (nn A)).toArray) (b := w2.heap.size + 1) (by omega) (ints .u8 (nn B)).toArray
  have P1 := Lib.hid P1
  have Q2 := Lib.hid Q2
  have M0 := Lib.hid M0
  have M1 := Lib.hid M1
  have M2 := Lib.hid M2
  have Mb := Lib.hid Mb
  clear hb2 J0 Jb P2
  go_wp2_with (first | (refine wpList_alloc_n rfl 29 rfl w2.heap.size rfl _ (alloc_hash _) ?_) | (refine wpList_alloc_n rfl 29 rfl (w2.heap.size + 1) (by simp) _ (alloc_hash _) ?_) | (refine wpList_store_blk rfl 29 _ _ rfl w2.heap.size (ints .u8 (nn A)) rfl rfl P1.out (by rw [size_hash, ints_length, nn_length, LA.out]) (by rw [ints_length, ints_length, nn_length, nn_length, LA.out]; rfl) (ints_one _ _) ?_) | (refine wpList_store_blk rfl 29 _ _ rfl (w2.heap.size + 1) (ints .u8 (nn B)) rfl rfl Q2.out (by rw [size_hash, ints_length, nn_length, LB.out]) (by rw [ints_length, ints_length, nn_length, nn_length, LB.out]; rfl) (ints_one _ _) ?_))
  have G0 := M0.out
  have G1 := M1.out
  have G2 := M2.out
  have Gb := Mb.out
  have gx := G0.lt
  clear P1 Q2 M0 M1 M2 Mb
  generalize World.setRow (World.setRow _ _ _) _ _ = w3 at *
  generalize w2.heap.size = y at *
  have hL0 : ∀ wx, NewBut w3 wx → Blk wx w.heap.size 23 (ints .u8 (nn nc)) := fun wx hx => G0.below hx G0.lt
  have hL1 : ∀ wx, NewBut w3 wx → Blk wx y 29 (ints .u8 (nn A)) := fun wx hx => G1.below hx G1.lt
  have hL2 : ∀ wx, NewBut w3 wx → Blk wx (y + 1) 29 (ints .u8 (nn B)) := fun wx hx => G2.below hx G2.lt
  have gz := G2.lt
  have HL0 := Lib.hid hL0
  have HL1 := Lib.hid hL1
  have HL2 := Lib.hid hL2
  clear G0 G1 G2 hL0 hL1 hL2
  refine region_free_last 7 mixed (by kernel_rfl) (by kernel_rfl) (lsF key nc s A B w.heap.size y (y + 1)) [] (fun _ => undef) rfl (NewBut w3) (show Below _ _ _ from (Below.refl _ _).drew) (lsS w3.heap.size nc s A T ra) ?mono ?step ?last
  case mono =>
    intro i v W W' hv hC hC' hb
    match i with
    | 0 | 1 | 2 | 3 | 4 | 5 => exact hv
    | 6 =>
      obtain ⟨b, h1, h2, h3⟩ := hv
      exact ⟨b, h1, h2, h3.below hb h3.lt⟩
    | _ + 7 => trivial
  case step =>
    intro u W i o hi ho hC hd
    have hr := Below.refl W.heap.size W
    rcases i with _ | _ | _ | _ | _ | _ | _ | i
    all_goals try (simp only [List.getElem?_cons_zero, List.getElem?_cons_succ, Option.some.injEq] at ho; subst ho)
    · unfold lsF; go_wp2_with (refine wpList_load_blk rfl 23 _ rfl w.heap.size rfl (HL0.out _ hC) Try.underlying23 rfl (by rw [size_b16', nc_len LN.out]) ?_)
      exact ⟨_, rfl, rfl, hC, hr⟩
    · unfold lsF; go_wp2_with (refine wpList_load_blk rfl 29 _ rfl y rfl (HL1.out _ hC) Try.underlying29 rfl (by rw [size_hash, ints_length, nn_length, LA.out]) ?_)
      exact ⟨_, rfl, rfl, hC, hr⟩
    · unfold lsF; go_wp2_with (refine wpList_load_blk rfl 23 _ rfl w.heap.size rfl (HL0.out _ hC) Try.underlying23 rfl (by rw [size_b16', nc_len LN.out]) ?_)
      exact ⟨_, rfl, rfl, hC, hr⟩
    · unfold lsF; go_wp2_with fail
      exact ⟨_, rfl, rfl, hC, hr⟩
    · have h1 : u 1 = _ := hd ⟨1, .data⟩ (by simp) rfl
      have h2 : u 2 = _ := hd ⟨2, .data⟩ (by simp) rfl
      have h3 : u 3 = _ := hd ⟨3, .data⟩ (by simp) rfl
      unfold lsF
      rw [h1, h2, h3]
      go_wp2_with ((with_reducible refine (HH.out _).mono ?_); rintro e w5 ⟨rfl, hb5⟩)
      exact ⟨_, by simp [upd, h1, h2, h3], rfl, hC.trans (hb5.mono hC.size), hb5⟩
    · have h0 : u 0 = _ := hd ⟨0, .data⟩ (by simp) rfl
      have h4 : u 4 = _ := hd ⟨4, .data⟩ (by simp) rfl
      unfold lsF
      rw [h0, h4]
      go_wp2_with (refine wpList_build_at rfl 47 _ rfl (.agg ra.toArray) (by simp only [List.map_toArray, List.map_cons, List.map_nil]; exact HBU.out _) ?_)
      exact ⟨_, by simp [upd, h0, h4], rfl, hC, hr⟩
    · have hz := hC.size
      unfold lsF
      go_wp2_with (refine wpList_alloc_n rfl 47 rfl W.heap.size rfl _ (alloc_parts _) ?_)
      exact ⟨_, rfl, ⟨W.heap.size, hz, rfl, Blk.new W _ _⟩, Below.alloc hC hz _, hr.alloc (Nat.le_refl _) _⟩
    · omega
  case last =>
    intro u W o ho hC hS
    simp only [List.getElem?_cons_zero, List.getElem?_cons_succ, Option.some.injEq] at ho
    subst ho
    have h5 : u 5 = .agg ra.toArray := hS 5 (by decide)
    obtain ⟨b, hb, h6, hB⟩ : ∃ b, w3.heap.size ≤ b ∧ u 6 = .pointer (some ⟨b, 0, none⟩) ∧ Blk W b 47 row0 := hS 6 (by decide)
    have E0 := HL0.out _ hC
    have E2 := (HL2.out _ hC).rowOther (g := b) (by omega) ra.toArray
    have Eb := below_setRow (Gb.trans (hC.mono Gb.size)) (b := b) (by omega) ra.toArray
    have EB := hB.row ra (by rw [R1.out, row0_len])
    have ez : (W.setRow b ra.toArray).heap.size = W.heap.size := by simp
    have hbl := hB.lt
    have EB := Lib.hid EB
    have E2 := Lib.hid E2
    have Eb := Lib.hid Eb
    have hB := Lib.hid hB
    unfold lsF
    rw [h5, h6]
    go_wp2_with (first | (refine wpList_store_blk rfl 47 _ _ rfl b ra rfl rfl hB.out (by rw [size_parts, R1.out]) (by rw [R1.out, row0_len]) O1.out ?_) | (refine wpList_load_blk rfl 47 _ rfl b rfl EB.out Try.underlying47 rfl (by rw [size_parts, R1.out]) ?_) | (refine wpList_load_blk rfl 29 _ rfl (y + 1) rfl E2.out Try.underlying29 rfl (by rw [size_hash, ints_length, nn_length, LB.out]) ?_))
    refine (HS.out _).mono ?_
    rintro e w5 ⟨rfl, hb5⟩
    have D1 := (EB.out.below hb5 EB.out.lt).cast N1.out
    have Db := Eb.out.trans (hb5.mono Eb.out.size)
    have hlo : (ints .u8 (nn (zerN 32))).length = (ints .u8 (nn O)).length := by rw [ints_length, ints_length, nn_length, nn_length, LO.out]; rfl
    have D1 := Lib.hid D1
    have Db := Lib.hid Db
    have HLO := Lib.hid hlo
    clear hb5 hlo
    go_wp2_with (first | (refine wpList_store_part rfl 29 _ _ rfl b 17 rfl (ints .u8 (nn O)) rfl _ (ints .u8 (nn (zerN 32))) [] D1.out N3.out HLO.out (by rw [size_hash, ints_length, nn_length, LO.out]) (ints_one _ _) ?_; intro w6 hB6 hb6 hw6; have C6 := hB6.cast N2.out.symm; clear hB6 hw6) | (refine wpList_load_blk rfl 47 _ rfl b rfl C6 Try.underlying47 rfl (by rw [size_parts, R2.out]) ?_) | (go_at_call 24; (with_reducible refine (HJ.out _).mono ?_); rintro e w7 ⟨rfl, hb7⟩))
    go_ret
    have c6 := Db.out.trans (hb6.mono (by omega))
    exact ⟨rfl, c6.trans (hb7.mono c6.size)⟩
end Go.Proofs.Ytleofmeejjikmaa
