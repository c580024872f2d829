/- Walks of a strings.Builder that a call makes itself: written to, then told as a text. -/
import Derived.Test.YtloogjdojojehaaG1
import Derived.Test.YtloogjdojojehaaG2
import Derived.Test.YtloogjdojojehaaJ1
import Derived.Lib.Builder
import Derived.Lib.UnsafeStr
import Derived.Lib.AppendStr
import Derived.Laws.Externs
import Derived.Test.YtloogjdojojehaaFB
import Derived.Test.YtloogjdojojehaaG4
import Derived.Maps.OwnIn
namespace Go.Proofs.Ytloogjdojojehaa
open Go.RowKit
set_option linter.unusedVariables false

theorem size_bld : (Try.prog.info? 62).map (·.size) = some 2 := by kernel_rfl
theorem lies_bld : liesAt Try.prog Try.prog.depth 62 (2 / Try.prog.cellsOf 62) 0 62 1 = true := by kernel_rfl
theorem cells_byte : Try.prog.cellsOf 5 = 1 := by kernel_rfl
theorem ints_str (s : ByteArray) : Lib.strCells s = ints .u8 (nn (sl s)) := by
  simp [Lib.strCells, ints, nn, sl, Function.comp_def]
theorem ints_byte (l : List UInt8) : ints .u8 (nn (l.map (·.toNat))) = Lib.byteCells l := by
  simp [Lib.byteCells, ints, nn, Function.comp_def]
/-- block b is a builder of the call's own, with these bytes -/
def Bld (w : World) (base b : Nat) (l : List Nat) : Prop :=
  base ≤ b ∧ ∃ p v, (p = .pointer none ∨ p = .pointer (some ⟨b, 0, none⟩)) ∧ Blk w b 62 [p, v] ∧ OwnB w base 5 v (nn l) ∧ (l = [] → v = .slice none 0 0)
theorem Bld.new (w : World) (base : Nat) (hb : base ≤ w.heap.size) : Bld (w.alloc (.cells #[.pointer none, .slice none 0 0] 62)) base w.heap.size [] :=
  ⟨hb, _, _, .inl rfl, Blk.new' w 62 [.pointer none, .slice none 0 0] rfl, OwnB.nil _ _ _, fun _ => rfl⟩
theorem Bld.lt {w : World} {base b : Nat} {l : List Nat} (h : Bld w base b l) : b < w.heap.size := by
  obtain ⟨_, _, _, _, hb, _⟩ := h
  exact hb.lt
theorem Bld.keep {w w' : World} {base b : Nat} {l : List Nat} (h : Bld w base b l) (hb : Below w.heap.size w w') : Bld w' base b l := by
  obtain ⟨h1, p, v, h2, h3, h4, h5⟩ := h
  exact ⟨h1, p, v, h2, h3.below hb h3.lt, h4.below hb (fun k hk => (h4.lt k hk).2), h5⟩
theorem OwnB.setOther {w : World} {base : Nat} {e : TypeId} {v : Value} {l : List Int} (h : OwnB w base e v l) {b : Nat} {t : TypeId} {vs : List Value} (hb : Blk w b t vs) (ht : t ≠ e) (j : Nat) (u : Value) : OwnB (w.setCell ⟨b, j, none⟩ u) base e v l := by
  obtain ⟨k1, k2⟩ := h
  refine ⟨k1, ?_⟩
  rcases k2 with h | ⟨g, cap, cur, hv, hg, hh, r⟩
  · exact .inl h
  · refine .inr ⟨g, cap, cur, hv, hg, ?_, r⟩
    have hne : g ≠ b := by
      rintro rfl
      unfold Blk at hb
      rw [hb] at hh
      simp at hh
      exact ht hh.2
    rw [Below.heap_setCell _ _ _ g (fun e => hne e)]
    exact hh
set_option maxRecDepth 100000 in
set_option maxHeartbeats 1000000 in
theorem b_check (w : World) (b : Nat) (p v : Value) (hp : p = .pointer none ∨ p = .pointer (some ⟨b, 0, none⟩)) (hb : Blk w b 62 [p, v]) :
    Calls Try.prog 67 #[.pointer (some ⟨b, 0, none⟩)] w fun e w' => e = .returned (.tuple #[]) ∧ (w' = w ∨ w' = w.setCell ⟨b, 0, none⟩ (.pointer (some ⟨b, 0, none⟩))) ∧ Blk w' b 62 [.pointer (some ⟨b, 0, none⟩), v] := by
  obtain ⟨j, hj, hjs⟩ := Option.map_eq_some_iff.1 size_bld
  have c0 := hb.cell 0
  have f0 := hb.free 0
  simp only [List.getElem?_cons_zero] at c0
  have hsh : w.shape? b = some (62, 2) := by unfold Blk at hb; simp [World.shape?, hb]
  rcases hp with rfl | rfl
  · have hset := hb.set 0 (.pointer (some ⟨b, 0, none⟩))
    have HSET := Lib.hid hset
    have hc1 := Lib.run_to_unsafe (P := Try.prog) w ⟨b, 0, none⟩ Try.underlying59 Try.underlying133 hj (by rw [hjs]; decide) hsh (Nat.zero_lt_succ 1)
    have hc2 := Lib.run_from_unsafe (P := Try.prog) w ⟨b, 0, none⟩ Try.underlying133 Try.underlying59 hj hsh lies_bld
    have hx : (callFunc 87 #[.pointer (some ⟨b, 0, none⟩)]).run Try.prog w = .ok (.value (.pointer (some ⟨b, 0, none⟩))) w := by
      rw [run_callFunc_extern Try.func87 (by kernel_rfl) (by kernel_rfl) (by kernel_rfl) (e := Extern.AbiNoEscape.same) (by kernel_rfl), Lib.run_noEscape]
      rfl
    clear hb hsh hset
    go_enter Try.func67, Try.ntmps67
    go_wp2
    go_end0
    exact ⟨rfl, .inr rfl, HSET.out⟩
  · have hne := Lib.run_neq_ptr_same (P := Try.prog) w ⟨b, 0, none⟩ Try.underlying59 hj
    have HB := Lib.hid hb
    clear hb
    go_enter Try.func67, Try.ntmps67
    go_wp2
    go_end0
    exact ⟨rfl, .inl rfl, HB.out⟩
set_option maxRecDepth 100000 in
set_option maxHeartbeats 1000000 in
/-- a text is written behind what is there -/
theorem b_WriteString (w : World) (base b : Nat) (l : List Nat) (s : ByteArray) (h : Bld w base b l) (hl : l.length + s.size ≤ 1000000000) (hbase : base ≤ w.heap.size) :
    Calls Try.prog 49 #[.pointer (some ⟨b, 0, none⟩), .string s] w fun e w' => e = .returned (.tuple #[.int .i64 (s.size : Int), .nilIface]) ∧ Bld w' base b (l ++ sl s) ∧ Below base w w' := by
  obtain ⟨i0, hi0, hz0, hz1, hz2⟩ := info_parts info_u8
  obtain ⟨hB, p, v, hp, hb, ho, hnil⟩ := h
  have HC := Lib.hid (b_check w b p v hp hb)
  have HO := Lib.hid ho
  have HBK := Lib.hid hb
  have HNIL := Lib.hid hnil
  have hll : (nn l).length = l.length := nn_length l
  have HL := Lib.hid hll
  clear hb ho hp hnil hll
  go_enter Try.func49, Try.ntmps49
  go_wp2_with fail
  (with_reducible refine HC.out.mono ?_)
  rintro e w1 ⟨rfl, hw1, hb1⟩
  have hk : OwnB w1 base 5 v (nn l) ∧ Below base w w1 := by
    rcases hw1 with rfl | rfl
    · exact ⟨HO.out, Below.refl _ _⟩
    · exact ⟨HO.out.setOther HBK.out (by decide) 0 _, (Below.refl _ _).setCell (p := ⟨b, 0, none⟩) hB _⟩
  have hown : w1.ownsRow base 5 1 v l.length (ints .u8 (nn l)) := by
    have := hk.1
    unfold OwnB at this
    rw [HL.out] at this
    exact this
  have c1 := hb1.cell 1
  have f1 := hb1.free 1
  simp only [List.getElem?_cons_zero, List.getElem?_cons_succ] at c1
  have HOWN := Lib.hid hown
  have HB1 := Lib.hid hb1
  have HK := Lib.hid hk.2
  have hne : ∀ i, v.ownBlock = some i → i ≠ b := fun i hi e => by
    subst e
    rcases hk.1.2 with ⟨hv, _⟩ | ⟨g, cap, cur, hv, hg, hh, r⟩
    · rw [hv] at hi; cases hi
    · rw [hv] at hi
      cases hi
      unfold Blk at hb1
      rw [hb1] at hh
      simp at hh
  have HLT := Lib.hid (hk.1.lt)
  have HNE := Lib.hid hne
  have H63 : Hid (l.length + s.size ≤ maxLen) := Lib.hid (by unfold maxLen; omega)
  have HBY : Hid (l.length + s.size ≤ 140737488355328) := Lib.hid (by omega)
  have HBS : Hid (base ≤ w1.heap.size) := Lib.hid (by have := HK.out.size; omega)
  clear hown hb1 hk hne hw1 HC HO HBK
  go_wp2_with (refine Lib.wpList_append_own_string _ rfl _ _ 60 9 rfl base 5 i0 Try.underlying60 Try.underlying9 hi0 hz0 hz1 hz2 v l.length (ints .u8 (nn l)) rfl HOWN.out s rfl H63.out HBY.out HBS.out ?_; intro v2 w2 ho2 hg2 hn2; have hb2 := HB1.out.grownP hg2 (fun e => HNE.out b e rfl); have c2 := hb2.cell 1; have f2 := hb2.free 1; simp only [List.getElem?_cons_zero, List.getElem?_cons_succ] at c2; have HO2 := Lib.hid ho2; have HB2 := Lib.hid hb2; have HK2 := Lib.hid (HK.out.grown hg2 HBS.out (fun k e => (HLT.out k e).1)); have HN2 := Lib.hid hn2; obtain ⟨p2, c2', rfl⟩ := own_slice ho2; clear ho2 hg2 hb2 hn2)
  go_ret2
  have q1 := HB2.out.set 1 (.slice p2 (l.length + s.size) c2')
  have q2 : OwnB w2 base 5 (.slice p2 (l.length + s.size) c2') (nn (l ++ sl s)) := by
    unfold OwnB
    rw [nn_length, List.length_append, sl_len, nn_app, ints_app, ← ints_str]
    exact HO2.out
  refine ⟨rfl, ⟨hB, _, _, .inr rfl, q1, q2.setOther HB2.out (by decide) 1 _, fun e => ?_⟩, HK2.out.setCell (p := ⟨b, 1, none⟩) hB _⟩
  have e1 := List.append_eq_nil_iff.1 e
  have e2 : s.size = 0 := by rw [← sl_len, e1.2]; rfl
  exact HN2.out.2 ⟨HNIL.out e1.1, e2⟩
set_option maxRecDepth 100000 in
set_option maxHeartbeats 1000000 in
/-- what was written, as a text -/
theorem b_String (w : World) (base b : Nat) (l : List Nat) (h : Bld w base b l) (hy : Bys l) (hl : l.length ≤ 1000000000) :
    Calls Try.prog 20 #[.pointer (some ⟨b, 0, none⟩)] w fun e w' => e = .returned (.string (tx l)) ∧ Below base w w' := by
  obtain ⟨hB, p, v, hp, hb, ho, hnil⟩ := h
  by_cases h0 : l = []
  · subst h0
    have e0 := hnil rfl
    subst e0
    have h1 : ∀ wx : World, (Builtin.unsafeSliceData_ #[60] 85 #[.slice none 0 0]).run Try.prog wx = .ok (.pointer none) wx := fun wx => Lib.run_unsafeSliceData_nil wx _ _ 0 0
    have h2 : ∀ wx : World, (Builtin.unsafeString_ #[85, 3] 9 #[.pointer none, .int .i64 0]).run Try.prog wx = .ok (.string .empty) wx := fun wx => Lib.run_unsafeString_none wx _ _ _ none
    have hc : ∀ wx, (∃ m, wx = w.drewN m) → wx.cell? ⟨b, 1, none⟩ = some (.slice none 0 0) := fun wx ⟨m, e⟩ => by
      subst e
      have := (hb.below (below_drewN (Below.refl _ _) m) hb.lt).cell 1
      simpa using this
    have HC := Lib.hid hc
    clear hb ho hnil hp hc
    go_enter Try.func20, Try.ntmps20
    go_wp2_with fail
    refine region_drew_tail 10 mixed (by kernel_rfl) ?_
    simp only [List.take_succ_cons, List.take_zero, List.drop_succ_cons, List.drop_zero]
    repeat (first | (refine wpQuiet_load_one rfl 60 _ rfl ⟨b, 1, none⟩ rfl (.slice none 0 0) HC.out Try.underlying60 rfl ?_) | go_big_quiet_step (fail) | (refine wpQuiet_step (fun K' hK' => ?_); go_simp; first | (refine hK' _ ?_; clear hK' K') | (refine ⟨_, fun _ _ => rfl, hK' _ ?_⟩; clear hK' K')))
    refine wpQuiet_nil ?_
    rintro w7 ⟨k7, rfl⟩
    have q2 := h2 (w.drewN k7)
    go_wp2
    go_ret
    exact ⟨rfl, below_drewN (Below.refl _ _) _⟩
  · have hlen : 0 < l.length := List.length_pos_iff.2 h0
    obtain ⟨g, cap, hv, hbg, hcap, hmax, hcell, hshape⟩ : ∃ g cap, v = .slice (some ⟨g, 0, none⟩) l.length cap ∧ base ≤ g ∧ l.length ≤ cap ∧ cap ≤ maxLen ∧ (∀ wx, (∃ m, wx = w.drewN m) → ∀ i, i < l.length → wx.cell? ⟨g, i, none⟩ = some (.int .u8 ((l.getD i 0 : Nat) : Int))) ∧ ∃ n, l.length ≤ n ∧ ∀ wx, (∃ m, wx = w.drewN m) → wx.shape? g = some (5, n) := by
      have ho' := ho
      rcases ho.2 with ⟨_, hz⟩ | ⟨g, cap, cur, hv, hg, hh, hn, hm, hcs, htk⟩
      · rw [nn_length] at hz; omega
      · rw [nn_length] at hv hn
        subst hv
        refine ⟨g, cap, rfl, hg, hn, hm, fun wx ⟨m, e⟩ i hi => ?_, cur.size, by omega, fun wx ⟨m, e⟩ => ?_⟩
        · subst e
          have := OwnB.cell (ho'.drewN m) (j := i) (by rw [nn_length]; exact hi)
          rw [nn_getD] at this
          exact this
        · subst e
          simp [World.shape?, hh]
    subst hv
    obtain ⟨n, hn, hsh⟩ := hshape
    obtain ⟨L, hL⟩ : ∃ L, (tx l).data.toList = L := ⟨_, rfl⟩
    have hLs : L.map (·.toNat) = l := by
      have := sl_tx hy
      unfold sl at this
      rw [hL] at this
      exact this
    have hLl : L.length = l.length := by rw [← hLs, List.length_map]
    have hLt : (⟨L.toArray⟩ : ByteArray) = tx l := by rw [← hL]
    have h1 : ∀ wx : World, (Builtin.unsafeSliceData_ #[60] 85 #[.slice (some ⟨g, 0, none⟩) l.length cap]).run Try.prog wx = .ok (.pointer (some ⟨g, 0, none⟩)) wx := fun wx => Lib.run_unsafeSliceData_row wx _ _ _ _ _ (by omega)
    have h2 : ∀ wx, (∃ m, wx = w.drewN m) → (Builtin.unsafeString_ #[85, 3] 9 #[.pointer (some ⟨g, 0, none⟩), .int .i64 (l.length : Int)]).run Try.prog wx = .ok (.string (tx l)) (wx.freeze ⟨g, 0, none⟩ l.length) := fun wx hx => by
      have := Lib.run_unsafeString_row (P := Try.prog) wx 85 3 9 5 Try.underlying85 cells_byte g n (hsh wx hx) L (by intro e; rw [e] at hLl; simp at hLl; omega) (by omega) (by omega) (fun j x hj => by
        have hjl : j < l.length := by have := (List.getElem?_eq_some_iff.1 hj).1; omega
        have := hcell wx hx j hjl
        rw [Addr.add_mid, Nat.zero_add, this]
        have e : l.getD j 0 = x.toNat := by rw [← hLs, List.getD_eq_getElem?_getD, List.getElem?_map, hj]; rfl
        rw [e])
      rw [hLl, hLt] at this
      exact this
    have hc : ∀ wx, (∃ m, wx = w.drewN m) → wx.cell? ⟨b, 1, none⟩ = some (.slice (some ⟨g, 0, none⟩) l.length cap) := fun wx ⟨m, e⟩ => by
      subst e
      have := (hb.below (below_drewN (Below.refl _ _) m) hb.lt).cell 1
      simpa using this
    have HC := Lib.hid hc
    have H2 := Lib.hid h2
    clear hb ho hnil hp hc h2 hcell hsh hL hLs hLt hLl hn
    generalize tx l = X at *
    go_enter Try.func20, Try.ntmps20
    go_wp2_with fail
    refine region_drew_tail 10 mixed (by kernel_rfl) ?_
    simp only [List.take_succ_cons, List.take_zero, List.drop_succ_cons, List.drop_zero]
    repeat (first | (refine wpQuiet_load_one rfl 60 _ rfl ⟨b, 1, none⟩ rfl (.slice (some ⟨g, 0, none⟩) l.length cap) HC.out Try.underlying60 rfl ?_) | go_big_quiet_step (fail) | (refine wpQuiet_step (fun K' hK' => ?_); go_simp; first | (refine hK' _ ?_; clear hK' K') | (refine ⟨_, fun _ _ => rfl, hK' _ ?_⟩; clear hK' K')))
    refine wpQuiet_nil ?_
    rintro w7 ⟨k7, rfl⟩
    have q2 := H2.out (w.drewN k7) ⟨_, rfl⟩
    have hb7 : Below base w ((w.drewN k7).freeze ⟨g, 0, none⟩ l.length) := Lib.below_freeze (below_drewN (Below.refl _ _) _) hbg _
    go_wp2
    go_ret
    exact ⟨rfl, hb7⟩
end Go.Proofs.Ytloogjdojojehaa
namespace Go.Proofs.Ytloogjdojojehaa
open Go.RowKit
set_option linter.unusedVariables false

theorem solid_bys {l : List (List Nat × List Nat)} (h : ∀ f ∈ l, Bys f.2) : Bys (solidF l) := Bys.of fun x hx => by
  obtain ⟨f, hf, hx⟩ := List.mem_flatMap.1 hx
  exact (h f hf).mem hx
end Go.Proofs.Ytloogjdojojehaa
namespace Go.Proofs.Ytloogjdojojehaa
open Go.RowKit
set_option linter.unusedVariables false

theorem make_strs (n : Nat) (h : n ≤ 1000000) (w : World) : (Instr.makeSlice 27 (.int .i64 (n : Int)) (.int .i64 (n : Int))).run Try.prog w = .ok (.slice (some ⟨w.heap.size, 0, none⟩) n n) (w.alloc (.cells (List.replicate n (Value.string ⟨#[]⟩)).toArray 9)) := by
  obtain ⟨i0, hi0, hz0, hz1, hz2⟩ := info_parts2 info_str
  have hr := run_make (P := Try.prog) w 27 9 i0 (.string ⟨#[]⟩) Try.underlying27 hi0 hz0 .i64 .i64 n n (by omega) (Int.le_refl _) (by rw [hz2]; omega) (by omega)
  simp only [Int.toNat_natCast, hz1, Nat.mul_one] at hr
  have e : madeCells (Value.string ⟨#[]⟩).cells n = (List.replicate n (Value.string ⟨#[]⟩)).toArray := by
    apply Array.ext'
    rw [show (Value.string ⟨#[]⟩).cells = #[.string ⟨#[]⟩] from rfl, toList_madeCells_one]
  rw [hr, e]
theorem make_intsK (n : Nat) (h : n ≤ 1000000) (w : World) : (Instr.makeSlice 28 (.int .i64 (n : Int)) (.int .i64 (n : Int))).run Try.prog w = .ok (.slice (some ⟨w.heap.size, 0, none⟩) n n) (w.alloc (.cells (List.replicate n (Value.int .i64 0)).toArray 3)) := by
  obtain ⟨i0, hi0, hz0, hz1, hz2⟩ := info_parts2 info_intK
  have hr := run_make (P := Try.prog) w 28 3 i0 (.int .i64 0) Try.underlying28 hi0 hz0 .i64 .i64 n n (by omega) (Int.le_refl _) (by rw [hz2]; omega) (by omega)
  simp only [Int.toNat_natCast, hz1, Nat.mul_one] at hr
  have e : madeCells (Value.int .i64 0).cells n = (List.replicate n (Value.int .i64 0)).toArray := by
    apply Array.ext'
    rw [show (Value.int .i64 0).cells = #[.int .i64 0] from rfl, toList_madeCells_one]
  rw [hr, e]
/-- cells of which the first j are written -/
def doneC (z : Value) (L : List Value) (j : Nat) : List Value := L.take j ++ List.replicate (L.length - j) z
theorem doneC_none (z : Value) (L : List Value) : doneC z L 0 = List.replicate L.length z := by simp [doneC]
theorem doneC_all (z : Value) (L : List Value) : doneC z L L.length = L := by simp [doneC]
theorem doneC_len (z : Value) (L : List Value) (j : Nat) (h : j ≤ L.length) : (doneC z L j).length = L.length := by simp [doneC]; omega
theorem doneC_set (z : Value) (L : List Value) {j : Nat} {x : Value} (h : L[j]? = some x) : (doneC z L j).set j x = doneC z L (j + 1) := by
  have hj : j < L.length := (List.getElem?_eq_some_iff.1 h).1
  have hx : L[j] = x := (List.getElem?_eq_some_iff.1 h).2
  unfold doneC
  rw [List.set_append_right _ _ (by rw [List.length_take]; omega), List.length_take, Nat.min_eq_left (by omega), Nat.sub_self, List.take_succ_eq_append_getElem hj, hx, List.append_assoc]
  congr 1
  obtain ⟨k, hk⟩ : ∃ k, L.length - j = k + 1 := ⟨L.length - j - 1, by omega⟩
  rw [hk, show L.length - (j + 1) = k by omega, List.replicate_succ]
  rfl
theorem doneC_at (z : Value) (L : List Value) {j : Nat} (h : j < L.length) : (doneC z L j)[j]? = some z := by
  unfold doneC
  rw [List.getElem?_append_right (by rw [List.length_take]; omega), List.getElem?_replicate, if_pos (by rw [List.length_take]; omega)]
def nameC (l : List (List Nat × List Nat)) : List Value := l.map fun f => .string (tx f.1)
def sizeC (l : List (List Nat × List Nat)) : List Value := l.map fun f => .int .i64 (f.2.length : Int)
theorem nameC_at {l : List (List Nat × List Nat)} {j : Nat} (h : j < l.length) : (nameC l)[j]? = some (.string (tx (l.getD j noF).1)) := by simp [nameC, h]
theorem sizeC_at {l : List (List Nat × List Nat)} {j : Nat} (h : j < l.length) : (sizeC l)[j]? = some (.int .i64 ((l.getD j noF).2.length : Int)) := by simp [sizeC, h]
theorem nameC_flat (l : List (List Nat × List Nat)) : nameC l = (rowsS (namesF l)).flatten := by
  induction l with
  | nil => rfl
  | cons f l ih => unfold nameC rowsS namesF at ih ⊢; simp [ih]
theorem sizeC_flat (l : List (List Nat × List Nat)) : sizeC l = (rowsZF (sizesF l)).flatten := by
  induction l with
  | nil => rfl
  | cons f l ih => unfold sizeC rowsZF sizesF at ih ⊢; simp [ih]
theorem sl_whole {w : World} {b k cap : Nat} {t : TypeId} {rows : List (List Value)} (hk : ∀ r ∈ rows, r.length = k) (h : Blk w b t rows.flatten) : Sl w k (.slice (some ⟨b, 0, none⟩) rows.length cap) rows := sl_blkS (rest := []) hk (by rw [List.append_nil]; exact h)
def NamesP (l : List (List Nat × List Nat)) (w : World) (e : Ending) (w' : World) : Prop :=
  ∃ p q : Option Addr, e = .returned (.tuple #[.slice p l.length l.length, .slice q l.length l.length]) ∧ Sl w' 1 (.slice p l.length l.length) (rowsS (namesF l)) ∧ Sl w' 1 (.slice q l.length l.length) (rowsZF (sizesF l)) ∧ Below w.heap.size w w'
/-- the worlds in which a round's two stores stand -/
def nmC (w : World) (T G : Nat) (R cn cn' cs : List Value) (b : Bool) (W : World) : Prop := Blk W T 141 R ∧ Blk W G 9 (if b then cn' else cn) ∧ Blk W (G + 1) 3 cs ∧ Below w.heap.size w W
def nmS (T G n j : Nat) (X Y : ByteArray) (i : Nat) (v : Value) (W : World) : Prop :=
  match i with
  | 0 => v = .slice (some ⟨G, 0, none⟩) n n
  | 1 | 3 => v = .int .i64 (j : Int)
  | 2 => v = .slice (some ⟨G + 1, 0, none⟩) n n
  | 4 => v = .pointer (some ⟨T, 0, none⟩)
  | 5 => v = .string X
  | 6 => v = .pointer (some ⟨T, 1, none⟩)
  | 7 => v = .string Y
  | 8 => v = .int .i64 (Y.size : Int)
  | 9 => v = .pointer (some ⟨G, j, none⟩)
  | 11 => v = .pointer (some ⟨G + 1, j, none⟩)
  | _ => True
theorem nmS_mono {T G n j : Nat} {X Y : ByteArray} (i : Nat) (v : Value) (W W' : World) (h : nmS T G n j X Y i v W) : nmS T G n j X Y i v W' :=
  match i with
  | 0 | 1 | 2 | 3 | 4 | 5 | 6 | 7 | 8 | 9 | 10 | 11 => h
  | _ + 12 => trivial
end Go.Proofs.Ytloogjdojojehaa
namespace Go.Proofs.Ytloogjdojojehaa
open Go.RowKit Go.Shelf
set_option linter.unusedVariables false

attribute [local go_sem] Oper.semAt_some

/-- the first k pieces -/
def pcL (s : List Nat) (k : Nat) : List (List Nat) := (List.range k).map (pieceF s)
theorem pcL_snoc (s : List Nat) (k : Nat) : pcL s (k + 1) = pcL s k ++ [pieceF s k] := cut_snoc s k
theorem pcL_len (s : List Nat) (k : Nat) : (pcL s k).length = k := by simp [pcL]
theorem pcL_all (s : List Nat) : pcL s (pcs s) = cutF s := rfl
end Go.Proofs.Ytloogjdojojehaa
namespace Go.Proofs.Ytloogjdojojehaa
open Go.RowKit
set_option linter.unusedVariables false

end Go.Proofs.Ytloogjdojojehaa
