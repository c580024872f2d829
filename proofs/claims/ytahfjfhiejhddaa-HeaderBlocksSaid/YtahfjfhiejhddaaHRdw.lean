/- Walks of the methods of the program's reader of versions. -/
import Derived.Test.YtahfjfhiejhddaaHRds
import Derived.Test.YtahfjfhiejhddaaHRdh
import Derived.Test.YtahfjfhiejhddaaHMay
namespace Go.Proofs.Ytahfjfhiejhddaa
open Go.RowKit
set_option linter.unusedVariables false

theorem enters {P : Program} {f : FuncId} {fn : Func} {c : Code} (hf : P.funcs[f]? = some fn) (hname : (fn.name == "runtime.NumGoroutine") = false) (hb : fn.body = some c) : ∀ (args : Array Value) (w : World), (callFunc f args).run P w = .ok (.enter f args) w := fun args w => by
  have h1 : fn.name ≠ "runtime.NumGoroutine" := by simpa using hname
  simp [callFunc, hf, h1, hb]
section
variable {P : Program} {ops : Array Oper} {rest : List Oper} {o : Oper} {a : Act} {w : World} {Q : Exit → Act → World → Prop}
/-- a whole row is read, wherever it lies, by a guarded operation, too -/
theorem wpList_load_addrV (hgd : Region.wanted o (yielded ops a.tmps) = true) (ty : TypeId) (x : Operand) (ho : o.op = .load ty x)
    (p : Addr) (hx : a.eval x = .pointer (some p)) (cs : List Value) {d : TypeDesc} (hc : ∀ j v, cs[j]? = some v → w.cell? (p.add j) = some v)
    (hu : P.underlying ty = some d) (hd : d.isRow = true) (hi : (P.info? ty).map (·.size) = some cs.length)
    (h : wpList P ops Q rest (a.put o.dst (.agg cs.toArray)) w) : wpList P ops Q (o :: rest) a w := by
  unfold wpList
  rw [if_pos hgd]
  refine .inl ?_
  unfold Oper.wp execOp
  simp only [ho, hx, Instr.loadAt, Instr.sureAddr, Sem.run_bind, Sem.run_pure, Result.andThen_ok, run_loadVar_addr w p ty cs d hc hu hd hi]
  exact h
end
/-- the reader is at this state -/
def RdS (w : World) (V : Nat) (wx : World) (S : RSt) : Prop := ∃ vb vn vz, RdQ w V wx S.1.id vb vn vz S.1.bl S.1.ns S.1.zs (tx S.2.1) S.2.2
section
variable {w wx wy : World} {V i : Nat} {vb vn vz : Value} {bl ns : List (List Nat)} {zs : List Int} {left : ByteArray} {er : Nat}
theorem RdQ.toErr (h : RdQ w V wx i vb vn vz bl ns zs left er) (hb : Below wx.heap.size wx wy) (e2 : Nat) : RdQ w V (wy.setCell ⟨V, 5, none⟩ (.int .i64 (e2 : Int))) i vb vn vz bl ns zs left e2 ∧ KeepR wx (wy.setCell ⟨V, 5, none⟩ (.int .i64 (e2 : Int))) :=
  ⟨(h.keep hb).set 5 _ i left e2 rfl, (KeepR.below hb).trans (.cell (h.keep hb).ver 5 _)⟩
theorem RdQ.toLeft (h : RdQ w V wx i vb vn vz bl ns zs left er) (hb : Below wx.heap.size wx wy) (rest : ByteArray) : RdQ w V (wy.setCell ⟨V, 4, none⟩ (.string rest)) i vb vn vz bl ns zs rest er ∧ KeepR wx (wy.setCell ⟨V, 4, none⟩ (.string rest)) :=
  ⟨(h.keep hb).set 4 _ i rest er rfl, (KeepR.below hb).trans (.cell (h.keep hb).ver 4 _)⟩
/-- its version, as a value -/
theorem RdQ.vv (h : RdQ w V wx i vb vn vz bl ns zs left er) : VV wx (.agg (cellsV i vb vn vz).toArray) ⟨i, bl, ns, zs⟩ := by
  have q1 := h.ob.isSlice
  have q2 := h.on.isSlice
  have q3 := h.oz.isSlice
  rw [rowsH_len] at q1
  rw [rowsS_len] at q2
  rw [rowsZ_len] at q3
  exact ⟨vb, vn, vz, rfl, q1, q2, q3, h.ob.sl, h.on.sl, h.oz.sl⟩
end
/-- where a method keeps its receiver -/
theorem box_ptr (wx : World) (V : Nat) : Blk (wx.alloc (.cells #[.pointer (some ⟨V, 0, none⟩)] 86)) wx.heap.size 86 [.pointer (some ⟨V, 0, none⟩)] := Blk.new' wx 86 [.pointer (some ⟨V, 0, none⟩)] rfl
set_option maxRecDepth 100000 in
set_option maxHeartbeats 1000000 in
theorem m_id {w wx : World} {V : Nat} {S : RSt} {k : Nat} (h : RdS w V wx S) (hk : RdOk S k) (hk2 : k ≤ 1000) :
    Calls Try.prog 39 #[.pointer (some ⟨V, 0, none⟩)] wx fun e w' => e = .returned (.tuple #[]) ∧ RdS w V w' (stI S) ∧ KeepR wx w' := by
  obtain ⟨vb, vn, vz, hq⟩ := h
  have hX := box_ptr wx V
  have hb0 := (Below.refl wx.heap.size wx).alloc (Nat.le_refl _) (.cells #[.pointer (some ⟨V, 0, none⟩)] 86)
  have hq1 := hq.keep hb0
  have hK0 := KeepR.below hb0
  obtain ⟨X, hXX⟩ : ∃ X, wx.heap.size = X := ⟨_, rfl⟩
  rw [hXX] at hX
  obtain ⟨W, hW⟩ : ∃ W, wx.alloc (.cells #[.pointer (some ⟨V, 0, none⟩)] 86) = W := ⟨_, rfl⟩
  rw [hW] at hX hb0 hq1 hK0
  have cX := hX.cell 0
  simp only [List.getElem?_cons_zero] at cX
  have HC : Hid (Calls Try.prog 54 #[.pointer (some ⟨V, 0, none⟩), .func (.func 52) #[] #[], .func (.func 55) #[] #[.pointer (some ⟨X, 0, none⟩)]] W fun e w' => e = .returned (.tuple #[]) ∧ RdS w V w' (stI S) ∧ KeepR W w') := Lib.hid (by
    by_cases he : S.2.2 = 0
    · have hq2 := hq1
      rw [he] at hq2
      by_cases h4 : S.2.1.length < 4
      · have hst : stI S = (S.1, S.2.1, 40) := by unfold stI; rw [if_neg (by simpa using he), if_pos h4]
        refine (st_u_err hq2.ver 52 55 X 0 ⟨#[]⟩ 40 (by decide) (enters Try.func52 (by kernel_rfl) rfl) (enters Try.func55 (by kernel_rfl) rfl) (rd_fixed (tx S.2.1) W (by rw [tx_size]; exact hk.len) 0 40 ⟨#[]⟩ (.inr ⟨by rw [tx_size]; exact h4, rfl, rfl, rfl⟩))).mono ?_
        rintro e w' ⟨he', w2, hb2, rfl⟩
        obtain ⟨r1, r2⟩ := hq1.toErr hb2 40
        rw [hst]
        exact ⟨he', ⟨_, _, _, r1⟩, r2⟩
      · have hst : stI S = (⟨fixN S.2.1 4, S.1.bl, S.1.ns, S.1.zs⟩, S.2.1.drop 4, 0) := by unfold stI; rw [if_neg (by simpa using he), if_neg h4]
        rw [hst]
        have hsz : (tx S.2.1).size = S.2.1.length := tx_size _
        have hls : sl (tx S.2.1) = S.2.1 := sl_tx hk.bys
        have hfx := fix_lt hk.bys 4
        refine st_u_ok hq2.ver 52 55 X (fixN S.2.1 4) (tx (S.2.1.drop 4)) _ (enters Try.func52 (by kernel_rfl) rfl) (enters Try.func55 (by kernel_rfl) rfl) ((rd_fixed (tx S.2.1) W (by rw [tx_size]; exact hk.len) (fixN S.2.1 4) 0 (tx (S.2.1.drop 4)) (.inl ⟨by rw [hsz]; omega, by rw [hls], by rw [tail_tx, hls], rfl⟩))) fun w2 hb2 => ?_
        obtain ⟨r1, r2⟩ := hq2.toLeft hb2 (tx (S.2.1.drop 4))
        refine (k_id r1 (r2.2 _ _ _ hX (by decide) (by decide) (by decide) (by decide)) (fixN S.2.1 4) (by simpa using hfx)).mono ?_
        rintro e w' ⟨he', r3, r4⟩
        exact ⟨he', ⟨_, _, _, r3⟩, r2.trans r4⟩
    · have hst : stI S = S := by unfold stI; rw [if_pos he]
      rw [hst]
      exact (st_u_no hq1.ver he _ _).mono fun e w' ⟨h1, h2⟩ => ⟨h1, by rw [h2]; exact ⟨_, _, _, hq1⟩, by rw [h2]; exact .refl _⟩)
  have HK0 := Lib.hid hK0
  clear hq hb0 hq1 hK0 hX
  go_enter Try.func39, Try.ntmps39
  go_wp2_with fail
  refine HC.out.mono ?_
  rintro e w9 ⟨rfl, h9, k9⟩
  have H9 := Lib.hid h9
  have K9 := Lib.hid (HK0.out.trans k9)
  clear h9 k9
  go_wp2
  go_end0
  exact ⟨rfl, H9.out, K9.out⟩
set_option maxRecDepth 100000 in
set_option maxHeartbeats 1000000 in
theorem m_block {w wx : World} {V : Nat} {S : RSt} {k : Nat} (h : RdS w V wx S) (hk : RdOk S k) (hk2 : k ≤ 1000) :
    Calls Try.prog 41 #[.pointer (some ⟨V, 0, none⟩)] wx fun e w' => e = .returned (.tuple #[]) ∧ RdS w V w' (stB S) ∧ KeepR wx w' := by
  obtain ⟨vb, vn, vz, hq⟩ := h
  have hX := box_ptr wx V
  have hb0 := (Below.refl wx.heap.size wx).alloc (Nat.le_refl _) (.cells #[.pointer (some ⟨V, 0, none⟩)] 86)
  have hq1 := hq.keep hb0
  have hK0 := KeepR.below hb0
  obtain ⟨X, hXX⟩ : ∃ X, wx.heap.size = X := ⟨_, rfl⟩
  rw [hXX] at hX
  obtain ⟨W, hW⟩ : ∃ W, wx.alloc (.cells #[.pointer (some ⟨V, 0, none⟩)] 86) = W := ⟨_, rfl⟩
  rw [hW] at hX hb0 hq1 hK0
  have cX := hX.cell 0
  simp only [List.getElem?_cons_zero] at cX
  have HC : Hid (Calls Try.prog 59 #[.pointer (some ⟨V, 0, none⟩), .func (.func 60) #[] #[], .func (.func 61) #[] #[.pointer (some ⟨X, 0, none⟩)]] W fun e w' => e = .returned (.tuple #[]) ∧ RdS w V w' (stB S) ∧ KeepR W w') := Lib.hid (by
    by_cases he : S.2.2 = 0
    · have hq2 := hq1
      rw [he] at hq2
      have hzl : (ints .u8 (nn (zerN 32))).length = 32 := by rw [ints_length, nn_length, zerN_len]
      by_cases h4 : S.2.1.length < 32
      · have hst : stB S = (S.1, S.2.1, 40) := by unfold stB; rw [if_neg (by simpa using he), if_pos h4]
        refine (st_h_err hq2.ver 60 61 X (ints .u8 (nn (zerN 32))) ⟨#[]⟩ 40 (by decide) hzl (ints_one _ _) (enters Try.func60 (by kernel_rfl) rfl) (enters Try.func61 (by kernel_rfl) rfl) (h_hash_no (tx S.2.1) W (by rw [tx_size]; exact h4))).mono ?_
        rintro e w' ⟨he', w2, hb2, rfl⟩
        obtain ⟨r1, r2⟩ := hq1.toErr hb2 40
        rw [hst]
        exact ⟨he', ⟨_, _, _, r1⟩, r2⟩
      · have hst : stB S = (⟨S.1.id, S.1.bl ++ [S.2.1.take 32], S.1.ns, S.1.zs⟩, S.2.1.drop 32, 0) := by unfold stB; rw [if_neg (by simpa using he), if_neg h4]
        rw [hst]
        have hsz : (tx S.2.1).size = S.2.1.length := tx_size _
        have hls : sl (tx S.2.1) = S.2.1 := sl_tx hk.bys
        have hR := h_hash_yes (tx S.2.1) W (by rw [hsz]; omega)
        rw [hls] at hR
        have htl : (S.2.1.take 32).length = 32 := by rw [List.length_take]; omega
        refine st_h_ok hq2.ver 60 61 X (rowH (S.2.1.take 32)) (tx (S.2.1.drop 32)) (rowH_len htl) (rowH_one _) _ (enters Try.func60 (by kernel_rfl) rfl) (enters Try.func61 (by kernel_rfl) rfl) hR fun w2 hb2 => ?_
        obtain ⟨r1, r2⟩ := hq2.toLeft hb2 (tx (S.2.1.drop 32))
        refine (k_block r1 (r2.2 _ _ _ hX (by decide) (by decide) (by decide) (by decide)) (S.2.1.take 32) htl (by have := hk.nb; omega)).mono ?_
        rintro e w' ⟨he', ⟨_, r3⟩, r4⟩
        exact ⟨he', ⟨_, _, _, r3⟩, r2.trans r4⟩
    · have hst : stB S = S := stB_err he
      rw [hst]
      exact (st_h_no hq1.ver he _ _).mono fun e w' ⟨h1, h2⟩ => ⟨h1, by rw [h2]; exact ⟨_, _, _, hq1⟩, by rw [h2]; exact .refl _⟩)
  have HK0 := Lib.hid hK0
  clear hq hb0 hq1 hK0 hX
  go_enter Try.func41, Try.ntmps41
  go_wp2_with fail
  refine HC.out.mono ?_
  rintro e w9 ⟨rfl, h9, k9⟩
  have H9 := Lib.hid h9
  have K9 := Lib.hid (HK0.out.trans k9)
  clear h9 k9
  go_wp2
  go_end0
  exact ⟨rfl, H9.out, K9.out⟩
set_option maxRecDepth 100000 in
theorem h_upTo (m : Nat) (w : World) : Calls Try.prog 57 #[.int .u64 (m : Int)] w fun e w' => e = .returned (.func (.func 70) #[] #[.pointer (some ⟨w.heap.size, 0, none⟩)]) ∧ w' = w.alloc (.cells #[.int .u64 (m : Int)] 55) := by
  go_enter Try.func57, Try.ntmps57
  go_wp2
  go_ret
  exact ⟨rfl, rfl⟩
/-- the name's step -/
theorem s_name {w W : World} {V X : Nat} {S : RSt} {k : Nat} (h : RdS w V W S) (hk : RdOk S k) (hk2 : k ≤ 1000) (hX : Blk W X 86 [.pointer (some ⟨V, 0, none⟩)]) :
    Calls Try.prog 62 #[.pointer (some ⟨V, 0, none⟩), .func (.func 63) #[] #[], .func (.func 64) #[] #[.pointer (some ⟨X, 0, none⟩)]] W fun e w' => e = .returned (.tuple #[]) ∧ RdS w V w' (stN S) ∧ KeepR W w' := by
  obtain ⟨vb, vn, vz, hq1⟩ := h
  by_cases he : S.2.2 = 0
  · have hq2 := hq1
    rw [he] at hq2
    have hls : sl (tx S.2.1) = S.2.1 := sl_tx hk.bys
    have hR := v_Read (tx S.2.1) W (by rw [tx_size]; exact hk.len) (readL S.2.1).1 (readL S.2.1).2.1 (readL S.2.1).2.2 _ _ (by rw [hls]) rfl rfl
    by_cases h4 : (readL S.2.1).2.2 ≠ 0
    · have hst : stN S = (S.1, S.2.1, (readL S.2.1).2.2) := by unfold stN; rw [if_neg (by simpa using he), if_pos h4]
      refine (st_s_err hq2.ver 63 64 X _ _ _ h4 (enters Try.func63 (by kernel_rfl) rfl) (enters Try.func64 (by kernel_rfl) rfl) hR).mono ?_
      rintro e w' ⟨he', w2, hb2, rfl⟩
      obtain ⟨r1, r2⟩ := hq1.toErr hb2 (readL S.2.1).2.2
      rw [hst]
      exact ⟨he', ⟨_, _, _, r1⟩, r2⟩
    · have hst : stN S = (⟨S.1.id, S.1.bl, S.1.ns ++ [(readL S.2.1).1], S.1.zs⟩, (readL S.2.1).2.1, 0) := by unfold stN; rw [if_neg (by simpa using he), if_neg h4]
      rw [hst]
      rw [show (readL S.2.1).2.2 = 0 by omega] at hR
      refine st_s_ok hq2.ver 63 64 X (tx (readL S.2.1).1) (tx (readL S.2.1).2.1) _ (enters Try.func63 (by kernel_rfl) rfl) (enters Try.func64 (by kernel_rfl) rfl) hR fun w2 hb2 => ?_
      obtain ⟨r1, r2⟩ := hq2.toLeft hb2 (tx (readL S.2.1).2.1)
      refine (k_name r1 (r2.2 _ _ _ hX (by decide) (by decide) (by decide) (by decide)) (readL S.2.1).1 (by have := hk.nn'; omega)).mono ?_
      rintro e w' ⟨he', ⟨_, r3⟩, r4⟩
      exact ⟨he', ⟨_, _, _, r3⟩, r2.trans r4⟩
  · have hst : stN S = S := stN_err he
    rw [hst]
    exact (st_s_no hq1.ver he _ _).mono fun e w' ⟨h1, h2⟩ => ⟨h1, by rw [h2]; exact ⟨_, _, _, hq1⟩, by rw [h2]; exact .refl _⟩
theorem upT_err {most : Nat} {s : List Nat} (h : (getL s).2.2 ≠ 0) : upT most s = (0, [], (getL s).2.2) := by unfold upT; rw [if_pos h]
theorem upT_big {most : Nat} {s : List Nat} (h : ¬ (getL s).2.2 ≠ 0) (h2 : most < (getL s).1) : upT most s = (0, [], 111) := by unfold upT; rw [if_neg h, if_pos h2]
theorem upT_ok {most : Nat} {s : List Nat} (h : ¬ (getL s).2.2 ≠ 0) (h2 : ¬ most < (getL s).1) : upT most s = ((getL s).1, s.drop (getL s).2.1, 0) := by unfold upT; rw [if_neg h, if_neg h2]
/-- a number's step: what is kept is asked of the keeping closure -/
theorem s_num {w W : World} {V X Y : Nat} {S : RSt} {k most : Nat} (h : RdS w V W S) (hk : RdOk S k) (hY : Blk W Y 55 [.int .u64 (most : Int)]) (hm : most ≤ 1000) (KF : Nat) (eK : ∀ args w, (callFunc KF args).run Try.prog w = .ok (.enter KF args) w) (S' : RSt)
    (h0 : S.2.2 ≠ 0 → S' = S) (h1 : S.2.2 = 0 → (getL S.2.1).2.2 ≠ 0 → S' = (S.1, S.2.1, (getL S.2.1).2.2)) (h2 : S.2.2 = 0 → ¬ (getL S.2.1).2.2 ≠ 0 → most < (getL S.2.1).1 → S' = (S.1, S.2.1, 111))
    (h3 : S.2.2 = 0 → ¬ (getL S.2.1).2.2 ≠ 0 → ¬ most < (getL S.2.1).1 → ∀ w2, RdS w V w2 (S.1, S.2.1.drop (getL S.2.1).2.1, 0) → KeepR W w2 → Calls Try.prog KF #[.int .i64 ((getL S.2.1).1 : Int), .pointer (some ⟨X, 0, none⟩)] w2 fun e w' => e = .returned (.tuple #[]) ∧ RdS w V w' S' ∧ KeepR W w') :
    Calls Try.prog 56 #[.pointer (some ⟨V, 0, none⟩), .func (.func 70) #[] #[.pointer (some ⟨Y, 0, none⟩)], .func (.func KF) #[] #[.pointer (some ⟨X, 0, none⟩)]] W fun e w' => e = .returned (.tuple #[]) ∧ RdS w V w' S' ∧ KeepR W w' := by
  obtain ⟨vb, vn, vz, hq1⟩ := h
  by_cases he : S.2.2 = 0
  · have hq2 := hq1
    rw [he] at hq2
    have hls : sl (tx S.2.1) = S.2.1 := sl_tx hk.bys
    have hsz : (tx S.2.1).size ≤ 65536 := by rw [tx_size]; exact hk.len
    have hnil : ([] : List Nat) = sl ⟨#[]⟩ := rfl
    by_cases h4 : (getL S.2.1).2.2 ≠ 0
    · have hst := h1 he h4
      have hR := rd_upTo most Y (tx S.2.1) W hY hm hsz 0 (getL S.2.1).2.2 ⟨#[]⟩ (by rw [hls, upT_err h4]; rfl)
      refine (st_i_err hq2.ver 70 KF X Y _ _ _ h4 (enters Try.func70 (by kernel_rfl) rfl) eK hR).mono ?_
      rintro e w' ⟨he', w2, hb2, rfl⟩
      obtain ⟨r1, r2⟩ := hq1.toErr hb2 (getL S.2.1).2.2
      rw [hst]
      exact ⟨he', ⟨_, _, _, r1⟩, r2⟩
    · by_cases h5 : most < (getL S.2.1).1
      · have hst := h2 he h4 h5
        have hR := rd_upTo most Y (tx S.2.1) W hY hm hsz 0 111 ⟨#[]⟩ (by rw [hls, upT_big h4 h5]; rfl)
        refine (st_i_err hq2.ver 70 KF X Y _ _ 111 (by decide) (enters Try.func70 (by kernel_rfl) rfl) eK hR).mono ?_
        rintro e w' ⟨he', w2, hb2, rfl⟩
        obtain ⟨r1, r2⟩ := hq1.toErr hb2 111
        rw [hst]
        exact ⟨he', ⟨_, _, _, r1⟩, r2⟩
      · have hR := rd_upTo most Y (tx S.2.1) W hY hm hsz (getL S.2.1).1 0 (tx (S.2.1.drop (getL S.2.1).2.1)) (by rw [hls, upT_ok h4 h5, sl_tx (hk.bys.drop _)])
        refine st_i_ok hq2.ver 70 KF X Y (getL S.2.1).1 (tx (S.2.1.drop (getL S.2.1).2.1)) _ (enters Try.func70 (by kernel_rfl) rfl) eK hR fun w2 hb2 => ?_
        obtain ⟨r1, r2⟩ := hq2.toLeft hb2 (tx (S.2.1.drop (getL S.2.1).2.1))
        exact h3 he h4 h5 _ ⟨_, _, _, r1⟩ r2
  · have hst := h0 he
    rw [hst]
    exact (st_i_no hq1.ver he _ _).mono fun e w' ⟨h1, h2⟩ => ⟨h1, by rw [h2]; exact ⟨_, _, _, hq1⟩, by rw [h2]; exact .refl _⟩
/-- the size's step -/
theorem s_size {w W : World} {V X Y : Nat} {S : RSt} {k : Nat} (h : RdS w V W S) (hk : RdOk S k) (hk2 : k ≤ 1000) (hX : Blk W X 86 [.pointer (some ⟨V, 0, none⟩)]) (hY : Blk W Y 55 [.int .u64 300]) :
    Calls Try.prog 56 #[.pointer (some ⟨V, 0, none⟩), .func (.func 70) #[] #[.pointer (some ⟨Y, 0, none⟩)], .func (.func 65) #[] #[.pointer (some ⟨X, 0, none⟩)]] W fun e w' => e = .returned (.tuple #[]) ∧ RdS w V w' (stZ S) ∧ KeepR W w' :=
  s_num (most := 300) h hk hY (by decide) 65 (enters Try.func65 (by kernel_rfl) rfl) (stZ S) (fun he => stZ_err he)
    (fun h0 h1 => by unfold stZ; rw [if_neg (by simpa using h0), if_pos h1])
    (fun h0 h1 h2 => by unfold stZ; rw [if_neg (by simpa using h0), if_neg h1, if_pos h2])
    (fun h0 h1 h2 w2 ⟨vb, vn, vz, r1⟩ r2 => by
      have hst : stZ S = (⟨S.1.id, S.1.bl, S.1.ns, S.1.zs ++ [((getL S.2.1).1 : Int)]⟩, S.2.1.drop (getL S.2.1).2.1, 0) := by unfold stZ; rw [if_neg (by simpa using h0), if_neg h1, if_neg h2]
      rw [hst]
      refine (k_size r1 (r2.2 _ _ _ hX (by decide) (by decide) (by decide) (by decide)) ((getL S.2.1).1 : Int) (by have := hk.nz; show S.1.zs.length ≤ 1000000; omega)).mono ?_
      rintro e w' ⟨he', ⟨_, r3⟩, r4⟩
      exact ⟨he', ⟨_, _, _, r3⟩, r2.trans r4⟩)
end Go.Proofs.Ytahfjfhiejhddaa
