/- Walks of the program's reader of versions: files, many, end. -/
import Derived.Test.YtahfjfhiejhddaaHRdw
namespace Go.Proofs.Ytahfjfhiejhddaa
open Go.RowKit
set_option linter.unusedVariables false

def flC (w W0 : World) (V X : Nat) (S : RSt) (b : Bool) (W : World) : Prop := RdS w V W S ∧ Blk W X 86 [.pointer (some ⟨V, 0, none⟩)] ∧ KeepR W0 W
def flS (V X : Nat) (i : Nat) (v : Value) (W : World) : Prop :=
  match i with
  | 0 => v = .pointer (some ⟨V, 0, none⟩)
  | 1 => ∃ Y, v = .func (.func 70) #[] #[.pointer (some ⟨Y, 0, none⟩)] ∧ Blk W Y 55 [.int .u64 300]
  | 2 => v = .func (.func 65) #[] #[.pointer (some ⟨X, 0, none⟩)]
  | _ => True
theorem RdS.keep {w W W' : World} {V : Nat} {S : RSt} (h : RdS w V W S) (hb : Below W.heap.size W W') : RdS w V W' S := by
  obtain ⟨vb, vn, vz, hq⟩ := h
  exact ⟨vb, vn, vz, hq.keep hb⟩
theorem flS_mono {V X : Nat} (b : Bool) (i : Nat) (v : Value) (W W' : World) (hb : i = 1 → b = true) (h : flS V X i v W) (hk : Below W.heap.size W W') : flS V X i v W' := by
  match i with
  | 0 | 2 => exact h
  | 1 =>
    obtain ⟨Y, h1, h2⟩ := h
    exact ⟨Y, h1, h2.below hk h2.lt⟩
  | _ + 3 => trivial
set_option maxRecDepth 100000 in
set_option maxHeartbeats 1000000 in
theorem m_file {w wx : World} {V : Nat} {S : RSt} {k : Nat} (h : RdS w V wx S) (hk : RdOk S k) (hk2 : k ≤ 900) :
    Calls Try.prog 42 #[.pointer (some ⟨V, 0, none⟩)] wx fun e w' => e = .returned (.tuple #[]) ∧ RdS w V w' (stF S) ∧ KeepR wx w' := by
  have hX := box_ptr wx V
  have hb0 := (Below.refl wx.heap.size wx).alloc (Nat.le_refl _) (.cells #[.pointer (some ⟨V, 0, none⟩)] 86)
  have hq1 := h.keep hb0
  have hK0 := KeepR.below hb0
  obtain ⟨X, hXX⟩ : ∃ X, wx.heap.size = X := ⟨_, rfl⟩
  rw [hXX] at hX
  obtain ⟨W, hW⟩ : ∃ W, wx.alloc (.cells #[.pointer (some ⟨V, 0, none⟩)] 86) = W := ⟨_, rfl⟩
  rw [hW] at hX hb0 hq1 hK0
  have cX := hX.cell 0
  simp only [List.getElem?_cons_zero] at cX
  have HC := Lib.hid (s_name hq1 hk (by omega) hX)
  have HK0 := Lib.hid hK0
  have HX := Lib.hid hX
  have HOK := Lib.hid (ok_N hk)
  obtain ⟨S1, hS1⟩ : ∃ S1, stN S = S1 := ⟨_, rfl⟩
  have HS1 : Hid (stF S = stZ S1) := Lib.hid (by unfold stF; rw [hS1])
  rw [hS1] at HC HOK
  clear h hb0 hq1 hK0 hX hS1
  go_enter Try.func42, Try.ntmps42
  go_wp2_with fail
  refine HC.out.mono ?_
  rintro e w1 ⟨rfl, h1, k1⟩
  have H1 := Lib.hid h1
  have X1 := Lib.hid (k1.2 _ _ _ HX.out (by decide) (by decide) (by decide) (by decide))
  have K1 := Lib.hid (HK0.out.trans k1)
  have HC1 : Hid (flC w wx V X S1 false w1.drew) := Lib.hid ⟨h1.keep (Below.refl _ _).drew, X1.out.drew, K1.out.trans (.below (Below.refl _ _).drew)⟩
  clear h1 k1 cX
  go_wp2_with fail
  refine region_mix 1 3 (by decide) mixed (by kernel_rfl) (by kernel_rfl) (fun u => #[_, _, _, _, _, u 0, u 1, u 2, _]) [] (fun i => undef) rfl
    (flC w wx V X S1) HC1.out (fun _ W W' => Below W.heap.size W W') (flS V X) ?mono ?step ?one ?last
  case mono => exact flS_mono
  case step =>
    intro bb u W j o hj hjk _ ho hC hd
    rcases j with _ | _ | _ | j
    all_goals try (simp only [List.getElem?_cons_zero, List.getElem?_cons_succ, Option.some.injEq] at ho; subst ho)
    · have c2 := hC.2.1.cell 0
      simp only [List.getElem?_cons_zero] at c2
      go_wp2_with fail
      exact ⟨_, rfl, rfl, hC, Below.refl _ _⟩
    · omega
    · go_wp2_with fail
      exact ⟨_, rfl, rfl, hC, Below.refl _ _⟩
    · omega
  case one =>
    intro u W o ho hC hd
    simp only [List.getElem?_cons_zero, List.getElem?_cons_succ, Option.some.injEq] at ho
    subst ho
    have hb := (Below.refl W.heap.size W).alloc (Nat.le_refl _) (.cells #[.int .u64 300] 55)
    have HCC : Hid (flC w wx V X S1 true (W.alloc (.cells #[.int .u64 300] 55))) := Lib.hid ⟨hC.1.keep hb, hC.2.1.below hb hC.2.1.lt, hC.2.2.trans (.below hb)⟩
    have HB := Lib.hid hb
    have HY := Lib.hid (Blk.new' W 55 [.int .u64 300] rfl)
    have HU := Lib.hid (h_upTo 300 W)
    clear hC hd hb
    go_wp2_with fail
    refine HU.out.mono ?_
    rintro e w2 ⟨rfl, rfl⟩
    go_wp2_with fail
    exact ⟨_, rfl, ⟨_, rfl, HY.out⟩, HCC.out, HB.out⟩
  case last =>
    intro u W o ho hC hS
    simp only [List.getElem?_cons_zero, List.getElem?_cons_succ, Option.some.injEq] at ho
    subst ho
    have e0 : u 0 = .pointer (some ⟨V, 0, none⟩) := hS 0 (by decide)
    obtain ⟨Y, e1, hY⟩ : ∃ Y, u 1 = .func (.func 70) #[] #[.pointer (some ⟨Y, 0, none⟩)] ∧ Blk W Y 55 [.int .u64 300] := hS 1 (by decide)
    have e2 : u 2 = .func (.func 65) #[] #[.pointer (some ⟨X, 0, none⟩)] := hS 2 (by decide)
    have HZ := Lib.hid (s_size hC.1 HOK.out (by omega) hC.2.1 hY)
    have HKK := Lib.hid hC.2.2
    clear hC hS hY
    rw [e0, e1, e2]
    go_wp2_with fail
    refine HZ.out.mono ?_
    rintro e w3 ⟨rfl, h3, k3⟩
    have H3 := Lib.hid h3
    have K3 := Lib.hid (HKK.out.trans k3)
    clear h3 k3
    go_wp2
    go_end0
    exact ⟨rfl, by rw [HS1.out]; exact H3.out, K3.out⟩
/-! ### many -/
/-- what one of them is asked: its steps keep what is kept -/
def OneOk (w : World) (V OF d : Nat) (one : RSt → RSt) : Prop :=
  (∀ S k, RdOk S k → RdOk (one S) (k + d)) ∧ ∀ (wy : World) S k, RdS w V wy S → RdOk S k → k ≤ 900 → Calls Try.prog OF #[.pointer (some ⟨V, 0, none⟩)] wy fun e w' => e = .returned (.tuple #[]) ∧ RdS w V w' (one S) ∧ KeepR wy w'
set_option maxRecDepth 100000 in
set_option maxHeartbeats 1000000 in
theorem m_many1 {w wx : World} {V X OF d : Nat} {one : RSt → RSt} (ho : OneOk w V OF d one) (eO : ∀ args w, (callFunc OF args).run Try.prog w = .ok (.enter OF args) w) {S : RSt} {k n : Nat} (h : RdS w V wx S) (hk : RdOk S k) (hn : n ≤ 1000) (hkn : k + d * n ≤ 900)
    (hX : Blk wx X 1 [.func (.func OF) #[.pointer (some ⟨V, 0, none⟩)] #[]]) :
    Calls Try.prog 58 #[.int .i64 (n : Int), .pointer (some ⟨X, 0, none⟩)] wx fun e w' => e = .returned (.tuple #[]) ∧ RdS w V w' (iterS one n S) ∧ KeepR wx w' := by
  have H := Lib.hid h
  have HX := Lib.hid hX
  have HOK : Hid (∀ j, j ≤ n → RdOk (iterS one j S) (k + d * j) ∧ k + d * j ≤ 900) := Lib.hid fun j hj => ⟨ok_iter ho.1 j S k hk, by have : d * j ≤ d * n := Nat.mul_le_mul_left _ hj; omega⟩
  have HO := Lib.hid ho
  clear h hX hk ho
  go_enter Try.func58, Try.ntmps58
  go_wp2
  go_loopw [4] (fun i wr => ∃ j : Nat, j ≤ n ∧ i = .int .i64 (j : Int) ∧ RdS w V wr (iterS one j S) ∧ KeepR wx wr) (fun i _ => n - (intOf i).toNat)
  case atStart => exact ⟨0, by omega, rfl, H.out, .refl _⟩
  case round =>
    obtain ⟨j, hj, rfl, hr, kr⟩ := hrel
    have KR := Lib.hid kr
    have HR := Lib.hid hr
    clear kr hr
    by_cases hlt : j < n
    · have d1 : (j : Int) < (n : Int) := by omega
      have d2 : (n : Int) ≤ 1000 := by omega
      obtain ⟨q1, q2⟩ := HOK.out j hj
      have HC := Lib.hid (HO.out.2 wr _ _ HR.out q1 q2)
      have c0 := (KR.out.2 _ _ _ HX.out (by decide) (by decide) (by decide) (by decide)).cell 0
      simp only [List.getElem?_cons_zero] at c0
      clear q1 q2
      go_wp2_with fail
      refine HC.out.mono ?_
      rintro e w2 ⟨rfl, h2, k2⟩
      have H2 := Lib.hid h2
      have K2 := Lib.hid (KR.out.trans k2)
      clear h2 k2 c0
      go_wp2
      go_roundw
      case rel => exact ⟨j + 1, by omega, by go_num, by rw [iter_snoc]; exact H2.out, K2.out⟩
      case measure => simp [intOf]; omega
    · obtain rfl : j = n := by omega
      go_wp2
      go_end0
      exact ⟨rfl, HR.out, KR.out⟩
set_option maxRecDepth 100000 in
set_option maxHeartbeats 1000000 in
theorem m_many {w wx : World} {V OF d most : Nat} {one : RSt → RSt} (ho : OneOk w V OF d one) (eO : ∀ args w, (callFunc OF args).run Try.prog w = .ok (.enter OF args) w) {S : RSt} {k : Nat} (h : RdS w V wx S) (hk : RdOk S k) (hm : most ≤ 1000) (hkn : k + d * most ≤ 900) :
    Calls Try.prog 40 #[.pointer (some ⟨V, 0, none⟩), .int .u64 (most : Int), .func (.func OF) #[.pointer (some ⟨V, 0, none⟩)] #[]] wx fun e w' => e = .returned (.tuple #[]) ∧ RdS w V w' (stM most one S) ∧ KeepR wx w' := by
  have hX := Blk.new' wx 1 (c := #[.func (.func OF) #[.pointer (some ⟨V, 0, none⟩)] #[]]) [.func (.func OF) #[.pointer (some ⟨V, 0, none⟩)] #[]] rfl
  have hb0 := (Below.refl wx.heap.size wx).alloc (Nat.le_refl _) (.cells #[.func (.func OF) #[.pointer (some ⟨V, 0, none⟩)] #[]] 1)
  have hq1 := h.keep hb0
  have hK0 := KeepR.below hb0
  obtain ⟨X, hXX⟩ : ∃ X, wx.heap.size = X := ⟨_, rfl⟩
  rw [hXX] at hX
  obtain ⟨W, hW⟩ : ∃ W, wx.alloc (.cells #[.func (.func OF) #[.pointer (some ⟨V, 0, none⟩)] #[]] 1) = W := ⟨_, rfl⟩
  rw [hW] at hX hb0 hq1 hK0
  have hb1 := (Below.refl W.heap.size W).alloc (Nat.le_refl _) (.cells #[.int .u64 (most : Int)] 55)
  have hX2 := hX.below hb1 hX.lt
  have hY := Blk.new' W 55 (c := #[.int .u64 (most : Int)]) [.int .u64 (most : Int)] rfl
  have hq2 := hq1.keep hb1
  have HC : Hid (Calls Try.prog 56 #[.pointer (some ⟨V, 0, none⟩), .func (.func 70) #[] #[.pointer (some ⟨W.heap.size, 0, none⟩)], .func (.func 58) #[] #[.pointer (some ⟨X, 0, none⟩)]] (W.alloc (.cells #[.int .u64 (most : Int)] 55)) fun e w' => e = .returned (.tuple #[]) ∧ RdS w V w' (stM most one S) ∧ KeepR (W.alloc (.cells #[.int .u64 (most : Int)] 55)) w') := Lib.hid
    (s_num hq2 hk hY hm _ (enters Try.func58 (by kernel_rfl) rfl) _ (fun he => stM_err he)
      (fun h0 h1 => by unfold stM; rw [if_neg (by simpa using h0), if_pos h1])
      (fun h0 h1 h2 => by unfold stM; rw [if_neg (by simpa using h0), if_neg h1, if_pos h2])
      (fun h0 h1 h2 w2 r1 r2 => by
        have hst : stM most one S = iterS one (getL S.2.1).1 (S.1, S.2.1.drop (getL S.2.1).2.1, 0) := by unfold stM; rw [if_neg (by simpa using h0), if_neg h1, if_neg h2]
        rw [hst]
        have hmul : d * (getL S.2.1).1 ≤ d * most := Nat.mul_le_mul_left _ (by omega)
        refine (m_many1 ho eO r1 (hk.drop _ 0) (by omega) (by omega) (r2.2 _ _ _ hX2 (by decide) (by decide) (by decide) (by decide))).mono ?_
        rintro e w' ⟨he', r3, r4⟩
        exact ⟨he', r3, r2.trans r4⟩))
  have HU := Lib.hid (h_upTo most W)
  have HK1 := Lib.hid (hK0.trans (.below hb1))
  clear h hb0 hq1 hK0 hX hb1 hX2 hY hq2 ho hk
  go_enter Try.func40, Try.ntmps40
  go_wp2_with fail
  refine HU.out.mono ?_
  rintro e w1 ⟨rfl, rfl⟩
  go_wp2_with fail
  refine HC.out.mono ?_
  rintro e w9 ⟨rfl, h9, k9⟩
  have H9 := Lib.hid h9
  have K9 := Lib.hid (HK1.out.trans k9)
  clear h9 k9
  go_wp2
  go_end0
  exact ⟨rfl, H9.out, K9.out⟩
theorem one_block (w : World) (V : Nat) : OneOk w V 41 1 stB := ⟨fun _ _ h => ok_B h, fun wy S k h hk h9 => m_block h hk (by omega)⟩
theorem one_file (w : World) (V : Nat) : OneOk w V 42 2 stF := ⟨fun _ _ h => ok_F h, fun wy S k h hk h9 => m_file h hk h9⟩
/-! ### end -/
set_option maxRecDepth 100000 in
set_option maxHeartbeats 1000000 in
theorem m_end {w wx : World} {V : Nat} {S : RSt} {k : Nat} (h : RdS w V wx S) (hk : RdOk S k) (hk2 : k ≤ 900) :
    Calls Try.prog 43 #[.pointer (some ⟨V, 0, none⟩)] wx fun e w' => e = .returned (.tuple #[]) ∧ RdS w V w' (stE S) ∧ KeepR wx w' := by
  obtain ⟨vb, vn, vz, hq⟩ := h
  have c5 := hq.ver.cell 5
  simp only [rdrC, List.getElem?_cons_zero, List.getElem?_cons_succ] at c5
  by_cases he : S.2.2 = 0
  · rw [he] at c5
    have hPA : ∀ j v, (cellsV S.1.id vb vn vz)[j]? = some v → wx.cell? ((⟨V, 0, none⟩ : Addr).add j) = some v := fun j v hv => by
      rw [Addr.add_mid, Nat.zero_add, hq.ver.cell]
      match j, hv with
      | 0, hv => exact hv
      | 1, hv => exact hv
      | 2, hv => exact hv
      | 3, hv => exact hv
      | _ + 4, hv => simp [cellsV] at hv
    have PA := Lib.hid hPA
    have HQ := Lib.hid hq
    have i1 := hk.nb
    have i2 := hk.nn'
    have i3 := hk.nz
    have HM : Hid (∀ b, mayH S.1.bl.length S.1.ns S.1.zs = b → Calls Try.prog 12 #[.agg (cellsV S.1.id vb vn vz).toArray] wx fun e w' => e = .returned (.bool b) ∧ Below wx.heap.size wx w') := Lib.hid fun b hb => h_May S.1 _ b wx hb hq.vv hk.nby (by omega) (by omega) (by omega)
    have g0 : ((0 : Int) == 0) = true := rfl
    have e4 : (cellsV S.1.id vb vn vz).length = 4 := rfl
    clear hPA hk i1 i2 i3
    by_cases hm : mayH S.1.bl.length S.1.ns S.1.zs = true
    · have hst : stE S = S := by unfold stE; rw [if_neg (by simpa using he), if_pos hm]
      have HMT := Lib.hid (HM.out true hm)
      have HST := Lib.hid hst
      clear hq hm hst
      generalize cellsV S.1.id vb vn vz = C at *
      go_enter Try.func43, Try.ntmps43
      go_wp2_with (refine wpList_load_addrV rfl 27 _ rfl ⟨V, 0, none⟩ rfl C PA.out Try.underlying27 rfl (by rw [size_ver, e4]) ?_)
      refine HMT.out.mono ?_
      rintro e w1 ⟨rfl, hb1⟩
      have Q1 := Lib.hid (HQ.out.keep hb1)
      have K1 := Lib.hid (KeepR.below hb1)
      clear hb1
      go_wp2
      go_end0
      exact ⟨rfl, by rw [HST.out]; exact ⟨_, _, _, Q1.out⟩, K1.out⟩
    · have hst : stE S = (S.1, S.2.1, 1) := by unfold stE; rw [if_neg (by simpa using he), if_neg hm]
      have HMT := Lib.hid (HM.out false (by simpa using hm))
      have HST := Lib.hid hst
      clear hq hm hst
      generalize cellsV S.1.id vb vn vz = C at *
      go_enter Try.func43, Try.ntmps43
      go_wp2_with (refine wpList_load_addrV rfl 27 _ rfl ⟨V, 0, none⟩ rfl C PA.out Try.underlying27 rfl (by rw [size_ver, e4]) ?_)
      refine HMT.out.mono ?_
      rintro e w1 ⟨rfl, hb1⟩
      obtain ⟨r1, r2⟩ := HQ.out.toErr hb1 1
      have Q1 := Lib.hid r1
      have K1 := Lib.hid r2
      have V1 := HQ.out.ver.below hb1 HQ.out.ver.lt
      have d5 := V1.cell 5
      have f5 := V1.free 5
      simp only [rdrC, List.getElem?_cons_zero, List.getElem?_cons_succ] at d5
      clear hb1 V1 r1 r2
      go_wp2
      go_end0
      exact ⟨rfl, by rw [HST.out]; exact ⟨_, _, _, Q1.out⟩, K1.out⟩
  · have hst : stE S = S := stE_err he
    have HST := Lib.hid hst
    have HQ : Hid (RdS w V wx S) := Lib.hid ⟨_, _, _, hq⟩
    have g0 : ((S.2.2 : Int) == 0) = false := by rw [beq_eq_false_iff_ne]; omega
    clear hq hst he hk
    generalize S.2.2 = er at *
    go_enter Try.func43, Try.ntmps43
    go_wp2
    go_end0
    exact ⟨rfl, by rw [HST.out]; exact HQ.out, .refl _⟩
end Go.Proofs.Ytahfjfhiejhddaa
