/- The store's contents in memory: frames of a block and of a mark, has, mark, the contents of nothing. -/
import Derived.Test.YtbobdbdknapdcaaSoMap
import Derived.Test.YtbobdbdknapdcaaV1
import Derived.Test.YtbobdbdknapdcaaG1
import Derived.Test.YtbobdbdknapdcaaGrd
import Derived.Test.YtbobdbdknapdcaaZB
import Derived.BigQuiet
import Derived.Carry
namespace Go.Proofs.Ytbobdbdknapdcaa
open Go.RowKit
set_option linter.unusedVariables false

/-- contents: the map, its names, the epoch, whether there is one -/
def coV (M : Nat) (v : Value) (e : Nat) (mk : Bool) : List Value := [.map (some M), v, .int .u64 (e : Int), .bool mk]
def rowN (l : List Int) : List Value := ints .u8 l
def rowsNm (L : List (List Nat)) : List (List Value) := L.map fun x => rowN (nmB x)
theorem rowsNm_len (L : List (List Nat)) : (rowsNm L).length = L.length := by simp [rowsNm]
theorem rowsNm_snoc (L : List (List Nat)) (x : List Nat) : rowsNm (L ++ [x]) = rowsNm L ++ [rowN (nmB x)] := by simp [rowsNm]
theorem rowN_len (x : List Nat) : (rowN (nmB x)).length = 32 := by unfold rowN; rw [ints_length, nmB_len]
theorem size_co : (Try.prog.info? 54).map (·.size) = some 4 := by kernel_rfl
structure ConW (w : World) (base B o : Nat) (ty : TypeId) (pre : List Value) (M k : Nat) (D : DataW Unit) (v : Value) (L : List (List Nat)) (e : Nat) (mk : Bool) : Prop where
  blk : Blk w B ty (pre ++ coV M v e mk)
  off : pre.length = o
  ty : ty ≠ 30
  map : MapW w M k D L
  own : OwnR w base 30 32 v (rowsNm L)
  hB : base ≤ B
  hM : base ≤ M
  nod : (L.map nmB).Nodup
  bys : ∀ x ∈ L, Bys x
namespace ConW
variable {w w' : World} {base B o : Nat} {ty : TypeId} {pre : List Value} {M k : Nat} {D : DataW Unit} {v : Value} {L : List (List Nat)} {e : Nat} {mk : Bool}
theorem at_ (h : ConW w base B o ty pre M k D v L e mk) (j : Nat) : w.cell? ⟨B, o + j, none⟩ = (coV M v e mk)[j]? := by
  rw [h.blk.cell, List.getElem?_append_right (by rw [h.off]; omega), h.off]
  congr 1
  omega
theorem below (h : ConW w base B o ty pre M k D v L e mk) (hb : Below w.heap.size w w') : ConW w' base B o ty pre M k D v L e mk :=
  ⟨h.blk.below hb h.blk.lt, h.off, h.ty, h.map.below hb, h.own.keep hb, h.hB, h.hM, h.nod, h.bys⟩
theorem drewN (h : ConW w base B o ty pre M k D v L e mk) (n : Nat) : ConW (w.drewN n) base B o ty pre M k D v L e mk := h.below (below_drewN (Below.refl _ _) n)
theorem neM (h : ConW w base B o ty pre M k D v L e mk) : B ≠ M := by
  rintro rfl
  obtain ⟨es, clock, hb, _⟩ := h.map.map
  have := h.blk
  unfold Blk at this
  rw [hb] at this
  simp at this
end ConW
set_option maxRecDepth 100000 in
theorem c_blockFrame (s : ByteArray) (w : World) (hs : s.size ≤ 65536) :
    Calls Try.prog 21 #[.string s] w fun e w' => e = .returned (.string (tx (66 :: sl s))) ∧ Below w.heap.size w w' := by
  have qb := Blk.new' w 5 (c := #[.int .u8 66]) (ints .u8 ([66] ++ [])) rfl
  have qo := OwnB.ofBlk (l := [66]) (base := w.heap.size) (cap := 1) [] qb (Nat.le_refl _) rfl (by decide)
  have hal := (Below.refl w.heap.size w).alloc (Nat.le_refl _) (.cells #[.int .u8 66] 5)
  have hT : bs [66] = tx [66] := rfl
  have hadd := fun w' => run_string_add_sum (P := Try.prog) w' (tx [66]) s (by rw [tx_size]; show 1 + s.size ≤ _; omega)
  have hx : tx [66] ++ s = tx (66 :: sl s) := by
    conv => lhs; rw [show s = tx (sl s) from (tx_sl s).symm, ← tx_app]
    rfl
  have QO := Lib.hid qo
  have HAL := Lib.hid hal
  have HX := Lib.hid hx
  have HTX := Lib.hid hT
  clear qb qo hal hx hT
  generalize tx [66] = T at *
  go_enter Try.func21, Try.ntmps21
  go_wp2_with (refine wpList_string_own rfl 33 9 5 _ rfl w.heap.size _ [66] rfl Try.underlying33 Try.underlying5 Try.underlying9 QO.out ?_; rw [HTX.out])
  go_ret
  exact ⟨by rw [← HX.out]; rfl, HAL.out⟩
def mfS (n : Nat) (i : Nat) (v : Value) (W : World) : Prop :=
  match i with
  | 0 => ∃ b, v = .slice (some ⟨b, 0, none⟩) 1 1 ∧ Blk W b 5 (ints .u8 ([77] ++ []))
  | 1 => v = .string (tx [77])
  | 2 => v = .int .u64 (n : Int)
  | 3 => v = .string (tx (bigL n 8))
  | 4 => v = .string (tx (77 :: bigL n 8))
  | _ => True
theorem mfS_mono (n i : Nat) (v : Value) (W W' : World) (h : mfS n i v W) (hb : Below W.heap.size W W') : mfS n i v W' := by
  match i with
  | 0 => obtain ⟨b, h1, h2⟩ := h; exact ⟨b, h1, h2.below hb h2.lt⟩
  | 1 | 2 | 3 | 4 => exact h
  | _ + 5 => trivial
set_option maxRecDepth 100000 in
theorem c_markFrame (n : Nat) (w : World) (hn : n < 18446744073709551616) :
    Calls Try.prog 50 #[.int .u64 (n : Int)] w fun e w' => e = .returned (.string (tx (77 :: bigL n 8))) ∧ Below w.heap.size w w' := by
  have hbl : (bigL n 8).length = 8 := by first | exact bigL_len n 8 | simp [bigL]
  have hT : bs [77] = tx [77] := rfl
  have hadd := fun w' => run_string_add_sum (P := Try.prog) w' (tx [77]) (tx (bigL n 8)) (by rw [tx_size, tx_size, hbl]; decide)
  have hx : tx [77] ++ tx (bigL n 8) = tx (77 :: bigL n 8) := by rw [← tx_app]; rfl
  rw [hx] at hadd
  have HB := Lib.hid (fun wx => v_Big n 8 wx (by decide) (by decide) hn)
  have HTX := Lib.hid hT
  clear hT hx hbl
  generalize hbg : bigL n 8 = BL at *
  clear hbg hn
  go_enter Try.func50, Try.ntmps50
  go_wp2_with fail
  refine region_free_last 5 mixed (by kernel_rfl) (by kernel_rfl) (fun u => #[_, _, _, u 0, u 1, u 2, u 3, u 4]) [] (fun i => undef) rfl (fun W => Below w.heap.size w W) (show Below _ _ _ from (Below.refl _ _).drew)
    (fun i v W => match i with
      | 0 => ∃ b, v = .slice (some ⟨b, 0, none⟩) 1 1 ∧ Blk W b 5 (ints .u8 ([77] ++ []))
      | 1 => v = .string (tx [77])
      | 2 => v = .int .u64 (n : Int)
      | 3 => v = .string (tx BL)
      | 4 => v = .string (tx (77 :: BL))
      | _ => True) ?mono ?step ?last
  case mono =>
    intro i v W W' h _ _ hb
    match i with
    | 0 => obtain ⟨b, h1, h2⟩ := h; exact ⟨b, h1, h2.below hb h2.lt⟩
    | 1 => exact h
    | 2 => exact h
    | 3 => exact h
    | 4 => exact h
    | _ + 5 => trivial
  case step =>
    intro u W i o hi ho hC hd
    have hr := Below.refl W.heap.size W
    rcases i with _ | _ | _ | _ | _ | i
    all_goals try (simp only [List.getElem?_cons_zero, List.getElem?_cons_succ, Option.some.injEq] at ho; subst ho)
    · go_wp2_with fail
      have hz := hC.size
      exact ⟨_, rfl, ⟨W.heap.size, rfl, Blk.new' W _ _ rfl⟩, Below.alloc hC hz _, hr.alloc (Nat.le_refl _) _⟩
    · obtain ⟨b, h0, q0⟩ : ∃ b, u 0 = .slice (some ⟨b, 0, none⟩) 1 1 ∧ Blk W b 5 (ints .u8 ([77] ++ [])) := hd ⟨0, .data⟩ (by simp) rfl
      have qo := OwnB.ofBlk (l := [77]) (base := b) (cap := 1) [] q0 (Nat.le_refl _) rfl (by decide)
      rw [h0]
      go_wp2_with (refine wpList_string_own rfl 33 9 5 _ rfl b _ [77] rfl Try.underlying33 Try.underlying5 Try.underlying9 qo ?_; rw [HTX.out])
      exact ⟨_, by simp [upd, h0], rfl, hC, hr⟩
    · go_wp2_with fail
      exact ⟨_, rfl, rfl, hC, hr⟩
    · have h2 : u 2 = .int .u64 (n : Int) := hd ⟨2, .data⟩ (by simp) rfl
      have hc := HB.out W
      rw [h2]
      go_wp2_with fail
      refine hc.mono ?_
      rintro e w5 ⟨rfl, hb5⟩
      go_wp2_with fail
      exact ⟨_, by simp [upd, h2], rfl, hC.trans (hb5.mono hC.size), hb5⟩
    · have h1 : u 1 = .string (tx [77]) := hd ⟨1, .data⟩ (by simp) rfl
      have h3 : u 3 = .string (tx BL) := hd ⟨3, .data⟩ (by simp) rfl
      rw [h1, h3]
      go_wp2_with fail
      exact ⟨_, by simp [upd, h1, h3], rfl, hC, hr⟩
    · omega
  case last =>
    intro u W o ho hC hS
    simp only [List.getElem?_cons_zero, List.getElem?_cons_succ, Option.some.injEq] at ho
    subst ho
    have h4 : u 4 = .string (tx (77 :: BL)) := hS 4 (by decide)
    clear hS
    rw [h4]
    go_wp2_with fail
    go_ret
    exact ⟨rfl, hC⟩
/-! ### the contents of nothing -/
def co0 (M : Nat) : List Value := [.map (some M), .slice none 0 0, .int .u64 0, .bool false]
theorem co0_is (M : Nat) : coV M (.slice none 0 0) 0 false = co0 M := rfl
set_option maxRecDepth 100000 in
theorem c_contentsOf_none (p : Option Addr) (c : Nat) (w : World) :
    Calls Try.prog 14 #[.slice p 0 c] w fun e w' => ∃ M, e = .returned (.agg (co0 M).toArray) ∧ w.heap.size ≤ M ∧ MapW w' M 0 (.map []) [] ∧ Below w.heap.size w w' := by
  have hmm := @run_makeMap Try.prog
  obtain ⟨Z, hZ⟩ : ∃ Z, w.heap.size = Z := ⟨_, rfl⟩
  have zco : ∀ wx : World, (Instr.alloc 54 true (.tuple #[])).run Try.prog wx = .ok (.pointer (some ⟨wx.heap.size, 0, none⟩)) (wx.alloc (.cells #[.map none, .slice none 0 0, .int .u64 0, .bool false] 54)) := fun wx => by kernel_rfl
  obtain ⟨w1, hw1⟩ : ∃ w1, w.alloc (.cells #[.map none, .slice none 0 0, .int .u64 0, .bool false] 54) = w1 := ⟨_, rfl⟩
  have s1 : w1.heap.size = Z + 1 := by rw [← hw1, ← hZ]; simp
  have hb1 : Below Z w w1 := by rw [← hw1, ← hZ]; exact (Below.refl w.heap.size w).alloc (Nat.le_refl _) _
  have k1 : Blk w1 Z 54 [.map none, .slice none 0 0, .int .u64 0, .bool false] := by rw [← hw1, ← hZ]; exact Blk.new w _ _
  obtain ⟨w2, hw2⟩ : ∃ w2, w1.alloc (.map #[] 0) = w2 := ⟨_, rfl⟩
  have s2 : w2.heap.size = Z + 2 := by rw [← hw2]; simp [s1]
  have hb2 : Below Z w w2 := by rw [← hw2]; exact Below.alloc hb1 (by omega) _
  have m2 : MapW w2 (Z + 1) 0 (.map []) [] := by rw [← hw2, ← s1]; exact MapW.made w1
  have k2 : Blk w2 Z 54 [.map none, .slice none 0 0, .int .u64 0, .bool false] := by rw [← hw2]; exact k1.alloc _
  obtain ⟨w3, hw3⟩ : ∃ w3, w2.alloc (.cells #[.map none, .slice none 0 0, .int .u64 0, .bool false] 54) = w3 := ⟨_, rfl⟩
  have s3 : w3.heap.size = Z + 3 := by rw [← hw3]; simp [s2]
  have hb3 : Below Z w w3 := by rw [← hw3]; exact Below.alloc hb2 (by omega) _
  have hb23 : Below w2.heap.size w2 w3 := by rw [← hw3]; exact (Below.refl _ _).alloc (Nat.le_refl _) _
  have k3 : Blk w3 (Z + 2) 54 [.map none, .slice none 0 0, .int .u64 0, .bool false] := by rw [← hw3, ← s2]; exact Blk.new w2 _ _
  have q3 : Blk w3 Z 54 [.map none, .slice none 0 0, .int .u64 0, .bool false] := k2.below hb23 k2.lt
  have m3 := m2.below hb23
  obtain ⟨w4, hw4⟩ : ∃ w4, w3.setRow (Z + 2) (co0 (Z + 1)).toArray = w4 := ⟨_, rfl⟩
  have k4 : Blk w4 (Z + 2) 54 (co0 (Z + 1)) := by rw [← hw4]; exact k3.row _ rfl
  have q4 : Blk w4 Z 54 [.map none, .slice none 0 0, .int .u64 0, .bool false] := by rw [← hw4]; exact q3.rowOther (by omega) _
  have hb4 : Below Z w w4 := by rw [← hw4]; exact below_setRow hb3 (by omega) _
  have m4 : MapW w4 (Z + 1) 0 (.map []) [] := by
    rw [← hw4]
    have hbb := below_setRow (Below.refl (Z + 2) w3) (Nat.le_refl _) (co0 (Z + 1)).toArray
    exact m3.same (hbb.block (Z + 1) (by omega))
  obtain ⟨w5, hw5⟩ : ∃ w5, w4.setRow Z (co0 (Z + 1)).toArray = w5 := ⟨_, rfl⟩
  have q5 : Blk w5 Z 54 (co0 (Z + 1)) := by rw [← hw5]; exact q4.row _ rfl
  have hb5 : Below Z w w5 := by rw [← hw5]; exact below_setRow hb4 (Nat.le_refl _) _
  have m5 : MapW w5 (Z + 1) 0 (.map []) [] := by
    rw [← hw5]
    refine m4.same ?_
    exact setRow_other w4 Z (Z + 1) _ (by omega)
  have hbd : ∀ (wx : World) (m : Nat), (Instr.build 54 #[(0, .map (some m))]).run Try.prog wx = .ok (.agg #[.map (some m), .slice none 0 0, .int .u64 0, .bool false]) wx := fun wx m => by kernel_rfl
  have HZ := Lib.hid hZ
  have S1 := Lib.hid s1
  have S2 := Lib.hid s2
  have K3 := Lib.hid k3
  have K4 := Lib.hid k4
  have Q4 := Lib.hid q4
  have Q5 := Lib.hid q5
  have HB5 := Lib.hid hb5
  have M5 := Lib.hid m5
  clear k1 k2 k3 k4 q3 q4 q5 hb1 hb2 hb3 hb23 hb4 hb5 m2 m3 m4 m5
  rw [hZ]
  unfold co0 at K4 Q4 Q5 hw4 hw5 ⊢
  go_enter Try.func14, Try.ntmps14
  go_wp2_with (first | (refine wpList_alloc_n rfl 54 rfl Z HZ.out _ (zco _) ?_; rw [hw1]) | (refine wpList_alloc_n rfl 54 rfl (Z + 2) S2.out _ (zco _) ?_; rw [hw3]) | (refine wpList_build_at rfl 54 _ rfl _ (by simp only [List.map_toArray, List.map_cons, List.map_nil]; exact hbd _ _) ?_) | (refine wpList_store_blk rfl 54 _ _ rfl (Z + 2) [.map (some (Z + 1)), .slice none 0 0, .int .u64 0, .bool false] rfl rfl K3.out (by rw [size_co]; rfl) rfl (by simp [Value.oneCell']) ?_; rw [hw4]))
  go_loopw [10] (fun i wr => i = .int .i64 0 ∧ wr = w4) (fun _ _ => 0)
  case atStart => exact ⟨rfl, rfl⟩
  case round =>
    obtain ⟨rfl, rfl⟩ := hrel
    go_wp2_with (first | (refine wpList_load_blk rfl 54 _ rfl (Z + 2) rfl K4.out Try.underlying54 rfl (by rw [size_co]; rfl) ?_) | (refine wpList_store_blk rfl 54 _ _ rfl Z [.map (some (Z + 1)), .slice none 0 0, .int .u64 0, .bool false] rfl rfl Q4.out (by rw [size_co]; rfl) rfl (by simp [Value.oneCell']) ?_; rw [hw5]))
    refine bodyPost_ret (v := .agg #[.map (some (Z + 1)), .slice none 0 0, .int .u64 0, .bool false]) (results_cell_blk rfl _ _ _ rfl Q5.out Try.underlying54 rfl (by rw [size_co]; rfl)) rfl ⟨_, rfl, by omega, M5.out, HB5.out⟩
end Go.Proofs.Ytbobdbdknapdcaa
