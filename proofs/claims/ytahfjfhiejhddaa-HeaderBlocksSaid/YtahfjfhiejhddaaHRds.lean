/- The program's reader of versions: walks of step, of what is read and of what is kept. -/
import Derived.Test.YtahfjfhiejhddaaHRdr
import Derived.Test.YtahfjfhiejhddaaHRdL
import Derived.Test.YtahfjfhiejhddaaV1
namespace Go.Proofs.Ytahfjfhiejhddaa
open Go.RowKit
set_option linter.unusedVariables false

set_option maxRecDepth 100000 in
theorem k_id {w wx : World} {V X : Nat} {i : Nat} {vb vn vz : Value} {bl ns : List (List Nat)} {zs : List Int} {left : ByteArray} {er : Nat} (h : RdQ w V wx i vb vn vz bl ns zs left er) (hX : Blk wx X 86 [.pointer (some ⟨V, 0, none⟩)]) (n : Nat) (hn : n < 4294967296) :
    Calls Try.prog 55 #[.int .u64 (n : Int), .pointer (some ⟨X, 0, none⟩)] wx fun e w' => e = .returned (.tuple #[]) ∧ RdQ w V w' n vb vn vz bl ns zs left er ∧ KeepR wx w' := by
  have c0 := h.ver.cell 0
  have f0 := h.ver.free 0
  have cX := hX.cell 0
  simp only [rdrC, List.getElem?_cons_zero] at c0 cX
  have i1 : (n : Int) < 4294967296 := by omega
  have u1 : IntKind.u32.wrap (n : Int) = (n : Int) := by rw [IntKind.wrap_u32]; omega
  have HQ := Lib.hid (h.set 0 (.int .u32 (n : Int)) n left er rfl)
  have HK := Lib.hid (KeepR.cell h.ver 0 (.int .u32 (n : Int)))
  clear h hX
  go_enter Try.func55, Try.ntmps55
  go_wp2
  go_end0
  exact ⟨rfl, HQ.out, HK.out⟩
set_option maxRecDepth 100000 in
theorem rd_fixed (s : ByteArray) (w : World) (hs : s.size ≤ 65536) (n er : Nat) (r : ByteArray) (hw : (4 ≤ s.size ∧ fixN (sl s) 4 = n ∧ s.extract 4 s.size = r ∧ er = 0) ∨ (s.size < 4 ∧ n = 0 ∧ r = ⟨#[]⟩ ∧ er = 40)) :
    Calls Try.prog 52 #[.string s] w fun e w' => e = .returned (.tuple #[.int .u64 (n : Int), .string r, .int .i64 (er : Int)]) ∧ Below w.heap.size w w' := by
  have HC := Lib.hid (v_Fixed s 4 w (by decide) (by decide) hs n er r hw)
  clear hw hs
  go_enter Try.func52, Try.ntmps52
  go_wp2_with fail
  refine HC.out.mono ?_
  rintro e w1 ⟨rfl, hb1⟩
  have G1 := Lib.hid hb1
  clear hb1
  go_wp2
  go_ret3
  exact ⟨rfl, G1.out⟩
/-- a number that is too great, or none, or one -/
def upT (most : Nat) (s : List Nat) : Nat × List Nat × Nat := if (getL s).2.2 ≠ 0 then (0, [], (getL s).2.2) else if most < (getL s).1 then (0, [], 111) else ((getL s).1, s.drop (getL s).2.1, 0)
set_option maxRecDepth 100000 in
theorem rd_upTo (most Y : Nat) (s : ByteArray) (w : World) (hY : Blk w Y 55 [.int .u64 (most : Int)]) (hm : most ≤ 1000) (hs : s.size ≤ 65536) (n er : Nat) (r : ByteArray) (hu : upT most (sl s) = (n, sl r, er)) :
    Calls Try.prog 70 #[.string s, .pointer (some ⟨Y, 0, none⟩)] w fun e w' => e = .returned (.tuple #[.int .i64 (n : Int), .string r, .int .i64 (er : Int)]) ∧ Below w.heap.size w w' := by
  obtain ⟨m, k, e2, hg⟩ : ∃ m k e2, getL (sl s) = (m, k, e2) := ⟨_, _, _, rfl⟩
  have hlt : m < 18446744073709551616 := by have := get_lt (sl s); rwa [hg] at this
  have HC := Lib.hid (v_Get s w hs m k e2 _ hg rfl)
  unfold upT at hu
  rw [hg] at hu
  dsimp only at hu
  have HY := Lib.hid hY
  clear hY hs hg
  by_cases h1 : e2 = 0
  · subst h1
    rw [if_neg (by simp)] at hu
    by_cases h2 : most < m
    · rw [if_pos h2] at hu
      simp only [Prod.mk.injEq] at hu
      obtain ⟨rfl, hr, rfl⟩ := hu
      obtain rfl : r = ⟨#[]⟩ := by rw [← tx_sl r, ← hr]; rfl
      have d1 : (most : Int) < (m : Int) := by omega
      clear h2
      go_enter Try.func70, Try.ntmps70
      go_wp2_with fail
      refine HC.out.mono ?_
      rintro e w1 ⟨rfl, hb1⟩
      have G1 := Lib.hid hb1
      have c0 := (HY.out.below hb1 HY.out.lt).cell 0
      simp only [List.getElem?_cons_zero] at c0
      clear hb1
      go_wp2
      go_ret3
      exact ⟨rfl, G1.out⟩
    · rw [if_neg h2] at hu
      simp only [Prod.mk.injEq] at hu
      obtain ⟨rfl, hr, rfl⟩ := hu
      have hr2 : tx ((sl s).drop k) = r := by rw [hr, tx_sl]
      have d1 : ¬ (most : Int) < (m : Int) := by omega
      have d2 : (m : Int) ≤ 1000 := by omega
      have u1 : IntKind.i64.wrap (m : Int) = (m : Int) := by rw [IntKind.wrap_i64]; omega
      rw [hr2] at HC
      clear h2 hr hr2
      go_enter Try.func70, Try.ntmps70
      go_wp2_with fail
      refine HC.out.mono ?_
      rintro e w1 ⟨rfl, hb1⟩
      have G1 := Lib.hid hb1
      have c0 := (HY.out.below hb1 HY.out.lt).cell 0
      simp only [List.getElem?_cons_zero] at c0
      clear hb1
      go_wp2
      go_ret3
      exact ⟨rfl, G1.out⟩
  · rw [if_pos h1] at hu
    simp only [Prod.mk.injEq] at hu
    obtain ⟨rfl, hr, rfl⟩ := hu
    obtain rfl : r = ⟨#[]⟩ := by rw [← tx_sl r, ← hr]; rfl
    have g1 : ((e2 : Int) != 0) = true := by rw [bne_iff_ne]; omega
    clear h1
    go_enter Try.func70, Try.ntmps70
    go_wp2_with fail
    refine HC.out.mono ?_
    rintro e w1 ⟨rfl, hb1⟩
    have G1 := Lib.hid hb1
    clear hb1
    go_wp2
    go_ret3
    exact ⟨rfl, G1.out⟩
/-! ### step[u] -/
set_option maxRecDepth 100000 in
theorem st_u_no {V : Nat} {wx : World} {i er : Nat} {vb vn vz : Value} {left : ByteArray} (hV : Blk wx V 69 (rdrC i vb vn vz left er)) (he : er ≠ 0) (rf kf : Value) :
    Calls Try.prog 54 #[.pointer (some ⟨V, 0, none⟩), rf, kf] wx fun e w' => e = .returned (.tuple #[]) ∧ w' = wx := by
  have c5 := hV.cell 5
  simp only [rdrC, List.getElem?_cons_zero, List.getElem?_cons_succ] at c5
  have g1 : ((er : Int) != 0) = true := by rw [bne_iff_ne]; omega
  clear hV he
  go_enter Try.func54, Try.ntmps54
  go_wp2
  refine bodyPost_ret (results_none rfl _ _ _) rfl ?_
  exact ⟨rfl, rfl⟩
set_option maxRecDepth 100000 in
set_option maxHeartbeats 1000000 in
theorem st_u_err {V : Nat} {wx : World} {i : Nat} {vb vn vz : Value} {left : ByteArray} (hV : Blk wx V 69 (rdrC i vb vn vz left 0)) (RF KF X : Nat) (n : Nat) (rest : ByteArray) (e2 : Nat) (he : e2 ≠ 0)
    (eR : ∀ args w, (callFunc RF args).run Try.prog w = .ok (.enter RF args) w) (eK : ∀ args w, (callFunc KF args).run Try.prog w = .ok (.enter KF args) w) (hR : Calls Try.prog RF #[.string left] wx fun e w' => e = .returned (.tuple #[.int .u64 (n : Int), .string rest, .int .i64 (e2 : Int)]) ∧ Below wx.heap.size wx w') :
    Calls Try.prog 54 #[.pointer (some ⟨V, 0, none⟩), .func (.func RF) #[] #[], .func (.func KF) #[] #[.pointer (some ⟨X, 0, none⟩)]] wx fun e w' => e = .returned (.tuple #[]) ∧ ∃ w2, Below wx.heap.size wx w2 ∧ w' = w2.setCell ⟨V, 5, none⟩ (.int .i64 (e2 : Int)) := by
  have c5 := hV.cell 5
  have c4 := hV.cell 4
  simp only [rdrC, List.getElem?_cons_zero, List.getElem?_cons_succ] at c4 c5
  have g1 : ((e2 : Int) != 0) = true := by rw [bne_iff_ne]; omega
  have HR := Lib.hid hR
  have HV := Lib.hid hV
  clear hV he hR
  go_enter Try.func54, Try.ntmps54
  go_wp2_with fail
  refine HR.out.mono ?_
  rintro e w1 ⟨rfl, hb1⟩
  have V2 := HV.out.below hb1 HV.out.lt
  have c5 := V2.cell 5
  have f5 := V2.free 5
  simp only [rdrC, List.getElem?_cons_zero, List.getElem?_cons_succ] at c5
  have G1 := Lib.hid hb1
  clear hb1 V2
  go_wp2
  refine bodyPost_ret (results_none rfl _ _ _) rfl ?_
  exact ⟨rfl, _, G1.out, rfl⟩
set_option maxRecDepth 100000 in
set_option maxHeartbeats 1000000 in
theorem st_u_ok {V : Nat} {wx : World} {i : Nat} {vb vn vz : Value} {left : ByteArray} (hV : Blk wx V 69 (rdrC i vb vn vz left 0)) (RF KF X : Nat) (n : Nat) (rest : ByteArray) (Rel : World → Prop)
    (eR : ∀ args w, (callFunc RF args).run Try.prog w = .ok (.enter RF args) w) (eK : ∀ args w, (callFunc KF args).run Try.prog w = .ok (.enter KF args) w) (hR : Calls Try.prog RF #[.string left] wx fun e w' => e = .returned (.tuple #[.int .u64 (n : Int), .string rest, .int .i64 0]) ∧ Below wx.heap.size wx w')
    (hK : ∀ w2, Below wx.heap.size wx w2 → Calls Try.prog KF #[.int .u64 (n : Int), .pointer (some ⟨X, 0, none⟩)] (w2.setCell ⟨V, 4, none⟩ (.string rest)) fun e w' => e = .returned (.tuple #[]) ∧ Rel w') :
    Calls Try.prog 54 #[.pointer (some ⟨V, 0, none⟩), .func (.func RF) #[] #[], .func (.func KF) #[] #[.pointer (some ⟨X, 0, none⟩)]] wx fun e w' => e = .returned (.tuple #[]) ∧ Rel w' := by
  have c5 := hV.cell 5
  have c4 := hV.cell 4
  simp only [rdrC, List.getElem?_cons_zero, List.getElem?_cons_succ] at c4 c5
  have HR := Lib.hid hR
  have HK := Lib.hid hK
  have HV := Lib.hid hV
  clear hV hR hK
  go_enter Try.func54, Try.ntmps54
  go_wp2_with fail
  refine HR.out.mono ?_
  rintro e w1 ⟨rfl, hb1⟩
  have V2 := HV.out.below hb1 HV.out.lt
  have c4 := V2.cell 4
  have f4 := V2.free 4
  simp only [rdrC, List.getElem?_cons_zero, List.getElem?_cons_succ] at c4
  have G1 := Lib.hid hb1
  clear hb1 V2
  go_wp2_with fail
  refine (HK.out w1 G1.out).mono ?_
  rintro e w9 ⟨rfl, h9⟩
  have H9 := Lib.hid h9
  clear h9
  go_wp2
  go_end0
  exact ⟨rfl, H9.out⟩
/-! ### step[s] -/
set_option maxRecDepth 100000 in
theorem st_s_no {V : Nat} {wx : World} {i er : Nat} {vb vn vz : Value} {left : ByteArray} (hV : Blk wx V 69 (rdrC i vb vn vz left er)) (he : er ≠ 0) (rf kf : Value) :
    Calls Try.prog 62 #[.pointer (some ⟨V, 0, none⟩), rf, kf] wx fun e w' => e = .returned (.tuple #[]) ∧ w' = wx := by
  have c5 := hV.cell 5
  simp only [rdrC, List.getElem?_cons_zero, List.getElem?_cons_succ] at c5
  have g1 : ((er : Int) != 0) = true := by rw [bne_iff_ne]; omega
  clear hV he
  go_enter Try.func62, Try.ntmps62
  go_wp2
  refine bodyPost_ret (results_none rfl _ _ _) rfl ?_
  exact ⟨rfl, rfl⟩
set_option maxRecDepth 100000 in
set_option maxHeartbeats 1000000 in
theorem st_s_err {V : Nat} {wx : World} {i : Nat} {vb vn vz : Value} {left : ByteArray} (hV : Blk wx V 69 (rdrC i vb vn vz left 0)) (RF KF X : Nat) (x : ByteArray) (rest : ByteArray) (e2 : Nat) (he : e2 ≠ 0)
    (eR : ∀ args w, (callFunc RF args).run Try.prog w = .ok (.enter RF args) w) (eK : ∀ args w, (callFunc KF args).run Try.prog w = .ok (.enter KF args) w) (hR : Calls Try.prog RF #[.string left] wx fun e w' => e = .returned (.tuple #[.string x, .string rest, .int .i64 (e2 : Int)]) ∧ Below wx.heap.size wx w') :
    Calls Try.prog 62 #[.pointer (some ⟨V, 0, none⟩), .func (.func RF) #[] #[], .func (.func KF) #[] #[.pointer (some ⟨X, 0, none⟩)]] wx fun e w' => e = .returned (.tuple #[]) ∧ ∃ w2, Below wx.heap.size wx w2 ∧ w' = w2.setCell ⟨V, 5, none⟩ (.int .i64 (e2 : Int)) := by
  have c5 := hV.cell 5
  have c4 := hV.cell 4
  simp only [rdrC, List.getElem?_cons_zero, List.getElem?_cons_succ] at c4 c5
  have g1 : ((e2 : Int) != 0) = true := by rw [bne_iff_ne]; omega
  have HR := Lib.hid hR
  have HV := Lib.hid hV
  clear hV he hR
  go_enter Try.func62, Try.ntmps62
  go_wp2_with fail
  refine HR.out.mono ?_
  rintro e w1 ⟨rfl, hb1⟩
  have V2 := HV.out.below hb1 HV.out.lt
  have c5 := V2.cell 5
  have f5 := V2.free 5
  simp only [rdrC, List.getElem?_cons_zero, List.getElem?_cons_succ] at c5
  have G1 := Lib.hid hb1
  clear hb1 V2
  go_wp2
  refine bodyPost_ret (results_none rfl _ _ _) rfl ?_
  exact ⟨rfl, _, G1.out, rfl⟩
set_option maxRecDepth 100000 in
set_option maxHeartbeats 1000000 in
theorem st_s_ok {V : Nat} {wx : World} {i : Nat} {vb vn vz : Value} {left : ByteArray} (hV : Blk wx V 69 (rdrC i vb vn vz left 0)) (RF KF X : Nat) (x : ByteArray) (rest : ByteArray) (Rel : World → Prop)
    (eR : ∀ args w, (callFunc RF args).run Try.prog w = .ok (.enter RF args) w) (eK : ∀ args w, (callFunc KF args).run Try.prog w = .ok (.enter KF args) w) (hR : Calls Try.prog RF #[.string left] wx fun e w' => e = .returned (.tuple #[.string x, .string rest, .int .i64 0]) ∧ Below wx.heap.size wx w')
    (hK : ∀ w2, Below wx.heap.size wx w2 → Calls Try.prog KF #[.string x, .pointer (some ⟨X, 0, none⟩)] (w2.setCell ⟨V, 4, none⟩ (.string rest)) fun e w' => e = .returned (.tuple #[]) ∧ Rel w') :
    Calls Try.prog 62 #[.pointer (some ⟨V, 0, none⟩), .func (.func RF) #[] #[], .func (.func KF) #[] #[.pointer (some ⟨X, 0, none⟩)]] wx fun e w' => e = .returned (.tuple #[]) ∧ Rel w' := by
  have c5 := hV.cell 5
  have c4 := hV.cell 4
  simp only [rdrC, List.getElem?_cons_zero, List.getElem?_cons_succ] at c4 c5
  have HR := Lib.hid hR
  have HK := Lib.hid hK
  have HV := Lib.hid hV
  clear hV hR hK
  go_enter Try.func62, Try.ntmps62
  go_wp2_with fail
  refine HR.out.mono ?_
  rintro e w1 ⟨rfl, hb1⟩
  have V2 := HV.out.below hb1 HV.out.lt
  have c4 := V2.cell 4
  have f4 := V2.free 4
  simp only [rdrC, List.getElem?_cons_zero, List.getElem?_cons_succ] at c4
  have G1 := Lib.hid hb1
  clear hb1 V2
  go_wp2_with fail
  refine (HK.out w1 G1.out).mono ?_
  rintro e w9 ⟨rfl, h9⟩
  have H9 := Lib.hid h9
  clear h9
  go_wp2
  go_end0
  exact ⟨rfl, H9.out⟩
/-! ### step[i] -/
set_option maxRecDepth 100000 in
theorem st_i_no {V : Nat} {wx : World} {i er : Nat} {vb vn vz : Value} {left : ByteArray} (hV : Blk wx V 69 (rdrC i vb vn vz left er)) (he : er ≠ 0) (rf kf : Value) :
    Calls Try.prog 56 #[.pointer (some ⟨V, 0, none⟩), rf, kf] wx fun e w' => e = .returned (.tuple #[]) ∧ w' = wx := by
  have c5 := hV.cell 5
  simp only [rdrC, List.getElem?_cons_zero, List.getElem?_cons_succ] at c5
  have g1 : ((er : Int) != 0) = true := by rw [bne_iff_ne]; omega
  clear hV he
  go_enter Try.func56, Try.ntmps56
  go_wp2
  refine bodyPost_ret (results_none rfl _ _ _) rfl ?_
  exact ⟨rfl, rfl⟩
set_option maxRecDepth 100000 in
set_option maxHeartbeats 1000000 in
theorem st_i_err {V : Nat} {wx : World} {i : Nat} {vb vn vz : Value} {left : ByteArray} (hV : Blk wx V 69 (rdrC i vb vn vz left 0)) (RF KF X Y : Nat) (n : Nat) (rest : ByteArray) (e2 : Nat) (he : e2 ≠ 0)
    (eR : ∀ args w, (callFunc RF args).run Try.prog w = .ok (.enter RF args) w) (eK : ∀ args w, (callFunc KF args).run Try.prog w = .ok (.enter KF args) w) (hR : Calls Try.prog RF #[.string left, .pointer (some ⟨Y, 0, none⟩)] wx fun e w' => e = .returned (.tuple #[.int .i64 (n : Int), .string rest, .int .i64 (e2 : Int)]) ∧ Below wx.heap.size wx w') :
    Calls Try.prog 56 #[.pointer (some ⟨V, 0, none⟩), .func (.func RF) #[] #[.pointer (some ⟨Y, 0, none⟩)], .func (.func KF) #[] #[.pointer (some ⟨X, 0, none⟩)]] wx fun e w' => e = .returned (.tuple #[]) ∧ ∃ w2, Below wx.heap.size wx w2 ∧ w' = w2.setCell ⟨V, 5, none⟩ (.int .i64 (e2 : Int)) := by
  have c5 := hV.cell 5
  have c4 := hV.cell 4
  simp only [rdrC, List.getElem?_cons_zero, List.getElem?_cons_succ] at c4 c5
  have g1 : ((e2 : Int) != 0) = true := by rw [bne_iff_ne]; omega
  have HR := Lib.hid hR
  have HV := Lib.hid hV
  clear hV he hR
  go_enter Try.func56, Try.ntmps56
  go_wp2_with fail
  refine HR.out.mono ?_
  rintro e w1 ⟨rfl, hb1⟩
  have V2 := HV.out.below hb1 HV.out.lt
  have c5 := V2.cell 5
  have f5 := V2.free 5
  simp only [rdrC, List.getElem?_cons_zero, List.getElem?_cons_succ] at c5
  have G1 := Lib.hid hb1
  clear hb1 V2
  go_wp2
  refine bodyPost_ret (results_none rfl _ _ _) rfl ?_
  exact ⟨rfl, _, G1.out, rfl⟩
set_option maxRecDepth 100000 in
set_option maxHeartbeats 1000000 in
theorem st_i_ok {V : Nat} {wx : World} {i : Nat} {vb vn vz : Value} {left : ByteArray} (hV : Blk wx V 69 (rdrC i vb vn vz left 0)) (RF KF X Y : Nat) (n : Nat) (rest : ByteArray) (Rel : World → Prop)
    (eR : ∀ args w, (callFunc RF args).run Try.prog w = .ok (.enter RF args) w) (eK : ∀ args w, (callFunc KF args).run Try.prog w = .ok (.enter KF args) w) (hR : Calls Try.prog RF #[.string left, .pointer (some ⟨Y, 0, none⟩)] wx fun e w' => e = .returned (.tuple #[.int .i64 (n : Int), .string rest, .int .i64 0]) ∧ Below wx.heap.size wx w')
    (hK : ∀ w2, Below wx.heap.size wx w2 → Calls Try.prog KF #[.int .i64 (n : Int), .pointer (some ⟨X, 0, none⟩)] (w2.setCell ⟨V, 4, none⟩ (.string rest)) fun e w' => e = .returned (.tuple #[]) ∧ Rel w') :
    Calls Try.prog 56 #[.pointer (some ⟨V, 0, none⟩), .func (.func RF) #[] #[.pointer (some ⟨Y, 0, none⟩)], .func (.func KF) #[] #[.pointer (some ⟨X, 0, none⟩)]] wx fun e w' => e = .returned (.tuple #[]) ∧ Rel w' := by
  have c5 := hV.cell 5
  have c4 := hV.cell 4
  simp only [rdrC, List.getElem?_cons_zero, List.getElem?_cons_succ] at c4 c5
  have HR := Lib.hid hR
  have HK := Lib.hid hK
  have HV := Lib.hid hV
  clear hV hR hK
  go_enter Try.func56, Try.ntmps56
  go_wp2_with fail
  refine HR.out.mono ?_
  rintro e w1 ⟨rfl, hb1⟩
  have V2 := HV.out.below hb1 HV.out.lt
  have c4 := V2.cell 4
  have f4 := V2.free 4
  simp only [rdrC, List.getElem?_cons_zero, List.getElem?_cons_succ] at c4
  have G1 := Lib.hid hb1
  clear hb1 V2
  go_wp2_with fail
  refine (HK.out w1 G1.out).mono ?_
  rintro e w9 ⟨rfl, h9⟩
  have H9 := Lib.hid h9
  clear h9
  go_wp2
  go_end0
  exact ⟨rfl, H9.out⟩
/-! ### step[h] -/
set_option maxRecDepth 100000 in
theorem st_h_no {V : Nat} {wx : World} {i er : Nat} {vb vn vz : Value} {left : ByteArray} (hV : Blk wx V 69 (rdrC i vb vn vz left er)) (he : er ≠ 0) (rf kf : Value) :
    Calls Try.prog 59 #[.pointer (some ⟨V, 0, none⟩), rf, kf] wx fun e w' => e = .returned (.tuple #[]) ∧ w' = wx := by
  have c5 := hV.cell 5
  simp only [rdrC, List.getElem?_cons_zero, List.getElem?_cons_succ] at c5
  have g1 : ((er : Int) != 0) = true := by rw [bne_iff_ne]; omega
  clear hV he
  go_enter Try.func59, Try.ntmps59
  go_wp2
  refine bodyPost_ret (results_none rfl _ _ _) rfl ?_
  exact ⟨rfl, rfl⟩
set_option maxRecDepth 100000 in
set_option maxHeartbeats 1000000 in
theorem st_h_err {V : Nat} {wx : World} {i : Nat} {vb vn vz : Value} {left : ByteArray} (hV : Blk wx V 69 (rdrC i vb vn vz left 0)) (RF KF X : Nat) (R : List Value) (rest : ByteArray) (e2 : Nat) (he : e2 ≠ 0) (hRl : R.length = 32) (hRo : R.toArray.all (·.oneCell') = true)
    (eR : ∀ args w, (callFunc RF args).run Try.prog w = .ok (.enter RF args) w) (eK : ∀ args w, (callFunc KF args).run Try.prog w = .ok (.enter KF args) w) (hR : Calls Try.prog RF #[.string left] wx fun e w' => e = .returned (.tuple #[.agg R.toArray, .string rest, .int .i64 (e2 : Int)]) ∧ Below wx.heap.size wx w') :
    Calls Try.prog 59 #[.pointer (some ⟨V, 0, none⟩), .func (.func RF) #[] #[], .func (.func KF) #[] #[.pointer (some ⟨X, 0, none⟩)]] wx fun e w' => e = .returned (.tuple #[]) ∧ ∃ w2, Below wx.heap.size wx w2 ∧ w' = w2.setCell ⟨V, 5, none⟩ (.int .i64 (e2 : Int)) := by
  have c5 := hV.cell 5
  have c4 := hV.cell 4
  simp only [rdrC, List.getElem?_cons_zero, List.getElem?_cons_succ] at c4 c5
  have g1 : ((e2 : Int) != 0) = true := by rw [bne_iff_ne]; omega
  have HR := Lib.hid hR
  have HV := Lib.hid hV
  have HRL := Lib.hid hRl
  have HRO := Lib.hid hRo
  clear hRl hRo
  clear hV he hR
  go_enter Try.func59, Try.ntmps59
  go_wp2_with fail
  refine HR.out.mono ?_
  rintro e w1 ⟨rfl, hb1⟩
  obtain ⟨T, hT⟩ : ∃ T, w1.heap.size = T := ⟨_, rfl⟩
  obtain ⟨ZR, hZR⟩ : ∃ ZR, ints .u8 (nn (zerN 32)) = ZR := ⟨_, rfl⟩
  have hle : ZR.length = 32 := by rw [← hZR, ints_length, nn_length, zerN_len]
  have hal : (Instr.alloc 44 true (.tuple #[])).run Try.prog w1 = .ok (.pointer (some ⟨w1.heap.size, 0, none⟩)) (w1.alloc (.cells ZR.toArray 44)) := by rw [← hZR]; exact alloc_h32 _
  clear hZR
  have k1 := Blk.newAt w1 T hT 44 (c := ZR.toArray) ZR rfl
  have k2 := k1.row R (by rw [HRL.out, hle])
  have hb2 := hb1.trans ((below_setRow ((Below.refl w1.heap.size w1).alloc (Nat.le_refl _) (.cells ZR.toArray 44)) (show w1.heap.size ≤ T by rw [hT]; exact Nat.le_refl _) R.toArray).mono hb1.size)
  have HAL := Lib.hid hal
  have K1 := Lib.hid k1
  obtain ⟨w2, hw2⟩ : ∃ w2, (w1.alloc (.cells ZR.toArray 44)).setRow T R.toArray = w2 := ⟨_, rfl⟩
  rw [hw2] at k2 hb2
  have HW2 := Lib.hid hw2
  have HZRL : Hid (ZR.length = R.length) := Lib.hid (by rw [hle, HRL.out])
  have V2 := HV.out.below hb2 HV.out.lt
  have c5 := V2.cell 5
  have f5 := V2.free 5
  simp only [rdrC, List.getElem?_cons_zero, List.getElem?_cons_succ] at c5
  have G1 := Lib.hid hb2
  have K2 := Lib.hid k2
  clear hb1 hb2 V2 k1 k2 hal hle hw2
  go_wp2_with (first | (refine wpList_alloc_n rfl 44 rfl T hT ZR.toArray HAL.out ?_) | (refine wpList_store_blk rfl 44 _ _ rfl T R rfl rfl K1.out (by rw [size_hashV, HRL.out]) HZRL.out HRO.out ?_; rw [HW2.out]))
  refine bodyPost_ret (results_none rfl _ _ _) rfl ?_
  exact ⟨rfl, _, G1.out, rfl⟩
set_option maxRecDepth 100000 in
set_option maxHeartbeats 1000000 in
theorem st_h_ok {V : Nat} {wx : World} {i : Nat} {vb vn vz : Value} {left : ByteArray} (hV : Blk wx V 69 (rdrC i vb vn vz left 0)) (RF KF X : Nat) (R : List Value) (rest : ByteArray) (hRl : R.length = 32) (hRo : R.toArray.all (·.oneCell') = true) (Rel : World → Prop)
    (eR : ∀ args w, (callFunc RF args).run Try.prog w = .ok (.enter RF args) w) (eK : ∀ args w, (callFunc KF args).run Try.prog w = .ok (.enter KF args) w) (hR : Calls Try.prog RF #[.string left] wx fun e w' => e = .returned (.tuple #[.agg R.toArray, .string rest, .int .i64 0]) ∧ Below wx.heap.size wx w')
    (hK : ∀ w2, Below wx.heap.size wx w2 → Calls Try.prog KF #[.agg R.toArray, .pointer (some ⟨X, 0, none⟩)] (w2.setCell ⟨V, 4, none⟩ (.string rest)) fun e w' => e = .returned (.tuple #[]) ∧ Rel w') :
    Calls Try.prog 59 #[.pointer (some ⟨V, 0, none⟩), .func (.func RF) #[] #[], .func (.func KF) #[] #[.pointer (some ⟨X, 0, none⟩)]] wx fun e w' => e = .returned (.tuple #[]) ∧ Rel w' := by
  have c5 := hV.cell 5
  have c4 := hV.cell 4
  simp only [rdrC, List.getElem?_cons_zero, List.getElem?_cons_succ] at c4 c5
  have HR := Lib.hid hR
  have HK := Lib.hid hK
  have HV := Lib.hid hV
  have HRL := Lib.hid hRl
  have HRO := Lib.hid hRo
  clear hRl hRo
  clear hV hR hK
  go_enter Try.func59, Try.ntmps59
  go_wp2_with fail
  refine HR.out.mono ?_
  rintro e w1 ⟨rfl, hb1⟩
  obtain ⟨T, hT⟩ : ∃ T, w1.heap.size = T := ⟨_, rfl⟩
  obtain ⟨ZR, hZR⟩ : ∃ ZR, ints .u8 (nn (zerN 32)) = ZR := ⟨_, rfl⟩
  have hle : ZR.length = 32 := by rw [← hZR, ints_length, nn_length, zerN_len]
  have hal : (Instr.alloc 44 true (.tuple #[])).run Try.prog w1 = .ok (.pointer (some ⟨w1.heap.size, 0, none⟩)) (w1.alloc (.cells ZR.toArray 44)) := by rw [← hZR]; exact alloc_h32 _
  clear hZR
  have k1 := Blk.newAt w1 T hT 44 (c := ZR.toArray) ZR rfl
  have k2 := k1.row R (by rw [HRL.out, hle])
  have hb2 := hb1.trans ((below_setRow ((Below.refl w1.heap.size w1).alloc (Nat.le_refl _) (.cells ZR.toArray 44)) (show w1.heap.size ≤ T by rw [hT]; exact Nat.le_refl _) R.toArray).mono hb1.size)
  have HAL := Lib.hid hal
  have K1 := Lib.hid k1
  obtain ⟨w2, hw2⟩ : ∃ w2, (w1.alloc (.cells ZR.toArray 44)).setRow T R.toArray = w2 := ⟨_, rfl⟩
  rw [hw2] at k2 hb2
  have HW2 := Lib.hid hw2
  have HZRL : Hid (ZR.length = R.length) := Lib.hid (by rw [hle, HRL.out])
  have V2 := HV.out.below hb2 HV.out.lt
  have c4 := V2.cell 4
  have f4 := V2.free 4
  simp only [rdrC, List.getElem?_cons_zero, List.getElem?_cons_succ] at c4
  have G1 := Lib.hid hb2
  have K2 := Lib.hid k2
  have K3 := Lib.hid (k2.other (a := ⟨V, 4, none⟩) (show V ≠ T from fun e => by have := HV.out.lt; have := hb1.size; omega) (.string rest))
  clear hb1 hb2 V2 k1 k2 hal hle hw2
  go_wp2_with (first | (refine wpList_alloc_n rfl 44 rfl T hT ZR.toArray HAL.out ?_) | (refine wpList_store_blk rfl 44 _ _ rfl T R rfl rfl K1.out (by rw [size_hashV, HRL.out]) HZRL.out HRO.out ?_; rw [HW2.out]) | (refine wpList_load_blk rfl 44 _ rfl T rfl K3.out Try.underlying44 rfl (by rw [size_hashV, HRL.out]) ?_))
  refine (HK.out w2 G1.out).mono ?_
  rintro e w9 ⟨rfl, h9⟩
  have H9 := Lib.hid h9
  clear h9
  go_wp2
  go_end0
  exact ⟨rfl, H9.out⟩
end Go.Proofs.Ytahfjfhiejhddaa
