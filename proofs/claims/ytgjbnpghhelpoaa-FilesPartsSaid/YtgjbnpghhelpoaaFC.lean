/- Walks of a strings.Builder that a call makes itself: written to, then told as a text. -/
import Derived.Test.YtgjbnpghhelpoaaG1
import Derived.Test.YtgjbnpghhelpoaaG2
import Derived.Test.YtgjbnpghhelpoaaJ1
import Derived.Lib.Builder
import Derived.Lib.UnsafeStr
import Derived.Lib.AppendStr
import Derived.Laws.Externs
import Derived.Test.YtgjbnpghhelpoaaFB
import Derived.Test.YtgjbnpghhelpoaaG4
import Derived.Maps.OwnIn
namespace Go.Proofs.Ytgjbnpghhelpoaa
open Go.RowKit
set_option linter.unusedVariables false

theorem size_bld : (Try.prog.info? 47).map (·.size) = some 2 := by kernel_rfl
theorem lies_bld : liesAt Try.prog Try.prog.depth 47 (2 / Try.prog.cellsOf 47) 0 47 1 = true := by kernel_rfl
theorem cells_byte : Try.prog.cellsOf 5 = 1 := by kernel_rfl
theorem ints_str (s : ByteArray) : Lib.strCells s = ints .u8 (nn (sl s)) := by
  simp [Lib.strCells, ints, nn, sl, Function.comp_def]
theorem ints_byte (l : List UInt8) : ints .u8 (nn (l.map (·.toNat))) = Lib.byteCells l := by
  simp [Lib.byteCells, ints, nn, Function.comp_def]
/-- block b is a builder of the call's own, with these bytes -/
def Bld (w : World) (base b : Nat) (l : List Nat) : Prop :=
  base ≤ b ∧ ∃ p v, (p = .pointer none ∨ p = .pointer (some ⟨b, 0, none⟩)) ∧ Blk w b 47 [p, v] ∧ OwnB w base 5 v (nn l) ∧ (l = [] → v = .slice none 0 0)
theorem Bld.new (w : World) (base : Nat) (hb : base ≤ w.heap.size) : Bld (w.alloc (.cells #[.pointer none, .slice none 0 0] 47)) base w.heap.size [] :=
  ⟨hb, _, _, .inl rfl, Blk.new' w 47 [.pointer none, .slice none 0 0] rfl, OwnB.nil _ _ _, fun _ => rfl⟩
theorem Bld.lt {w : World} {base b : Nat} {l : List Nat} (h : Bld w base b l) : b < w.heap.size := by
  obtain ⟨_, _, _, _, hb, _⟩ := h
  exact hb.lt
theorem Bld.keep {w w' : World} {base b : Nat} {l : List Nat} (h : Bld w base b l) (hb : Below w.heap.size w w') : Bld w' base b l := by
  obtain ⟨h1, p, v, h2, h3, h4, h5⟩ := h
  exact ⟨h1, p, v, h2, h3.below hb h3.lt, h4.below hb (fun k hk => (h4.lt k hk).2), h5⟩
theorem OwnB.setOther {w : World} {base : Nat} {e : TypeId} {v : Value} {l : List Int} (h : OwnB w base e v l) {b : Nat} {t : TypeId} {vs : List Value} (hb : Blk w b t vs) (ht : t ≠ e) (j : Nat) (u : Value) : OwnB (w.setCell ⟨b, j, none⟩ u) base e v l := by
  obtain ⟨k1, k2⟩ := h
  refine ⟨k1, ?_⟩
  rcases k2 with h | ⟨g, cap, cur, hv, hg, hh, r⟩
  · exact .inl h
  · refine .inr ⟨g, cap, cur, hv, hg, ?_, r⟩
    have hne : g ≠ b := by
      rintro rfl
      unfold Blk at hb
      rw [hb] at hh
      simp at hh
      exact ht hh.2
    rw [Below.heap_setCell _ _ _ g (fun e => hne e)]
    exact hh
set_option maxRecDepth 100000 in
set_option maxHeartbeats 1000000 in
theorem b_check (w : World) (b : Nat) (p v : Value) (hp : p = .pointer none ∨ p = .pointer (some ⟨b, 0, none⟩)) (hb : Blk w b 47 [p, v]) :
    Calls Try.prog 27 #[.pointer (some ⟨b, 0, none⟩)] w fun e w' => e = .returned (.tuple #[]) ∧ (w' = w ∨ w' = w.setCell ⟨b, 0, none⟩ (.pointer (some ⟨b, 0, none⟩))) ∧ Blk w' b 47 [.pointer (some ⟨b, 0, none⟩), v] := by
  obtain ⟨j, hj, hjs⟩ := Option.map_eq_some_iff.1 size_bld
  have c0 := hb.cell 0
  have f0 := hb.free 0
  simp only [List.getElem?_cons_zero] at c0
  have hsh : w.shape? b = some (47, 2) := by unfold Blk at hb; simp [World.shape?, hb]
  rcases hp with rfl | rfl
  · have hset := hb.set 0 (.pointer (some ⟨b, 0, none⟩))
    have HSET := Lib.hid hset
    have hc1 := Lib.run_to_unsafe (P := Try.prog) w ⟨b, 0, none⟩ Try.underlying44 Try.underlying59 hj (by rw [hjs]; decide) hsh (Nat.zero_lt_succ 1)
    have hc2 := Lib.run_from_unsafe (P := Try.prog) w ⟨b, 0, none⟩ Try.underlying59 Try.underlying44 hj hsh lies_bld
    have hx : (callFunc 29 #[.pointer (some ⟨b, 0, none⟩)]).run Try.prog w = .ok (.value (.pointer (some ⟨b, 0, none⟩))) w := by
      rw [run_callFunc_extern Try.func29 (by kernel_rfl) (by kernel_rfl) (by kernel_rfl) (e := Extern.AbiNoEscape.same) (by kernel_rfl), Lib.run_noEscape]
      rfl
    clear hb hsh hset
    go_enter Try.func27, Try.ntmps27
    go_wp2
    go_end0
    exact ⟨rfl, .inr rfl, HSET.out⟩
  · have hne := Lib.run_neq_ptr_same (P := Try.prog) w ⟨b, 0, none⟩ Try.underlying44 hj
    have HB := Lib.hid hb
    clear hb
    go_enter Try.func27, Try.ntmps27
    go_wp2
    go_end0
    exact ⟨rfl, .inl rfl, HB.out⟩
set_option maxRecDepth 100000 in
set_option maxHeartbeats 1000000 in
/-- a text is written behind what is there -/
theorem b_WriteString (w : World) (base b : Nat) (l : List Nat) (s : ByteArray) (h : Bld w base b l) (hl : l.length + s.size ≤ 1000000000) (hbase : base ≤ w.heap.size) :
    Calls Try.prog 23 #[.pointer (some ⟨b, 0, none⟩), .string s] w fun e w' => e = .returned (.tuple #[.int .i64 (s.size : Int), .nilIface]) ∧ Bld w' base b (l ++ sl s) ∧ Below base w w' := by
  obtain ⟨i0, hi0, hz0, hz1, hz2⟩ := info_parts info_u8
  obtain ⟨hB, p, v, hp, hb, ho, hnil⟩ := h
  have HC := Lib.hid (b_check w b p v hp hb)
  have HO := Lib.hid ho
  have HBK := Lib.hid hb
  have HNIL := Lib.hid hnil
  have hll : (nn l).length = l.length := nn_length l
  have HL := Lib.hid hll
  clear hb ho hp hnil hll
  go_enter Try.func23, Try.ntmps23
  go_wp2_with fail
  (with_reducible refine HC.out.mono ?_)
  rintro e w1 ⟨rfl, hw1, hb1⟩
  have hk : OwnB w1 base 5 v (nn l) ∧ Below base w w1 := by
    rcases hw1 with rfl | rfl
    · exact ⟨HO.out, Below.refl _ _⟩
    · exact ⟨HO.out.setOther HBK.out (by decide) 0 _, (Below.refl _ _).setCell (p := ⟨b, 0, none⟩) hB _⟩
  have hown : w1.ownsRow base 5 1 v l.length (ints .u8 (nn l)) := by
    have := hk.1
    unfold OwnB at this
    rw [HL.out] at this
    exact this
  have c1 := hb1.cell 1
  have f1 := hb1.free 1
  simp only [List.getElem?_cons_zero, List.getElem?_cons_succ] at c1
  have HOWN := Lib.hid hown
  have HB1 := Lib.hid hb1
  have HK := Lib.hid hk.2
  have hne : ∀ i, v.ownBlock = some i → i ≠ b := fun i hi e => by
    subst e
    rcases hk.1.2 with ⟨hv, _⟩ | ⟨g, cap, cur, hv, hg, hh, r⟩
    · rw [hv] at hi; cases hi
    · rw [hv] at hi
      cases hi
      unfold Blk at hb1
      rw [hb1] at hh
      simp at hh
  have HLT := Lib.hid (hk.1.lt)
  have HNE := Lib.hid hne
  have H63 : Hid (l.length + s.size ≤ maxLen) := Lib.hid (by unfold maxLen; omega)
  have HBY : Hid (l.length + s.size ≤ 140737488355328) := Lib.hid (by omega)
  have HBS : Hid (base ≤ w1.heap.size) := Lib.hid (by have := HK.out.size; omega)
  clear hown hb1 hk hne hw1 HC HO HBK
  go_wp2_with (refine Lib.wpList_append_own_string _ rfl _ _ 45 9 rfl base 5 i0 Try.underlying45 Try.underlying9 hi0 hz0 hz1 hz2 v l.length (ints .u8 (nn l)) rfl HOWN.out s rfl H63.out HBY.out HBS.out ?_; intro v2 w2 ho2 hg2 hn2; have hb2 := HB1.out.grownP hg2 (fun e => HNE.out b e rfl); have c2 := hb2.cell 1; have f2 := hb2.free 1; simp only [List.getElem?_cons_zero, List.getElem?_cons_succ] at c2; have HO2 := Lib.hid ho2; have HB2 := Lib.hid hb2; have HK2 := Lib.hid (HK.out.grown hg2 HBS.out (fun k e => (HLT.out k e).1)); have HN2 := Lib.hid hn2; obtain ⟨p2, c2', rfl⟩ := own_slice ho2; clear ho2 hg2 hb2 hn2)
  go_ret2
  have q1 := HB2.out.set 1 (.slice p2 (l.length + s.size) c2')
  have q2 : OwnB w2 base 5 (.slice p2 (l.length + s.size) c2') (nn (l ++ sl s)) := by
    unfold OwnB
    rw [nn_length, List.length_append, sl_len, nn_app, ints_app, ← ints_str]
    exact HO2.out
  refine ⟨rfl, ⟨hB, _, _, .inr rfl, q1, q2.setOther HB2.out (by decide) 1 _, fun e => ?_⟩, HK2.out.setCell (p := ⟨b, 1, none⟩) hB _⟩
  have e1 := List.append_eq_nil_iff.1 e
  have e2 : s.size = 0 := by rw [← sl_len, e1.2]; rfl
  exact HN2.out.2 ⟨HNIL.out e1.1, e2⟩
set_option maxRecDepth 100000 in
set_option maxHeartbeats 1000000 in
/-- what was written, as a text -/
theorem b_String (w : World) (base b : Nat) (l : List Nat) (h : Bld w base b l) (hy : Bys l) (hl : l.length ≤ 1000000000) :
    Calls Try.prog 24 #[.pointer (some ⟨b, 0, none⟩)] w fun e w' => e = .returned (.string (tx l)) ∧ Below base w w' := by
  obtain ⟨hB, p, v, hp, hb, ho, hnil⟩ := h
  by_cases h0 : l = []
  · subst h0
    have e0 := hnil rfl
    subst e0
    have h1 : ∀ wx : World, (Builtin.unsafeSliceData_ #[45] 58 #[.slice none 0 0]).run Try.prog wx = .ok (.pointer none) wx := fun wx => Lib.run_unsafeSliceData_nil wx _ _ 0 0
    have h2 : ∀ wx : World, (Builtin.unsafeString_ #[58, 3] 9 #[.pointer none, .int .i64 0]).run Try.prog wx = .ok (.string .empty) wx := fun wx => Lib.run_unsafeString_none wx _ _ _ none
    have hc : ∀ wx, (∃ m, wx = w.drewN m) → wx.cell? ⟨b, 1, none⟩ = some (.slice none 0 0) := fun wx ⟨m, e⟩ => by
      subst e
      have := (hb.below (below_drewN (Below.refl _ _) m) hb.lt).cell 1
      simpa using this
    have HC := Lib.hid hc
    clear hb ho hnil hp hc
    go_enter Try.func24, Try.ntmps24
    go_wp2_with fail
    refine region_drew_tail 10 mixed (by kernel_rfl) ?_
    simp only [List.take_succ_cons, List.take_zero, List.drop_succ_cons, List.drop_zero]
    repeat (first | (refine wpQuiet_load_one rfl 45 _ rfl ⟨b, 1, none⟩ rfl (.slice none 0 0) HC.out Try.underlying45 rfl ?_) | go_big_quiet_step (fail) | (refine wpQuiet_step (fun K' hK' => ?_); go_simp; first | (refine hK' _ ?_; clear hK' K') | (refine ⟨_, fun _ _ => rfl, hK' _ ?_⟩; clear hK' K')))
    refine wpQuiet_nil ?_
    rintro w7 ⟨k7, rfl⟩
    have q2 := h2 (w.drewN k7)
    go_wp2
    go_ret
    exact ⟨rfl, below_drewN (Below.refl _ _) _⟩
  · have hlen : 0 < l.length := List.length_pos_iff.2 h0
    obtain ⟨g, cap, hv, hbg, hcap, hmax, hcell, hshape⟩ : ∃ g cap, v = .slice (some ⟨g, 0, none⟩) l.length cap ∧ base ≤ g ∧ l.length ≤ cap ∧ cap ≤ maxLen ∧ (∀ wx, (∃ m, wx = w.drewN m) → ∀ i, i < l.length → wx.cell? ⟨g, i, none⟩ = some (.int .u8 ((l.getD i 0 : Nat) : Int))) ∧ ∃ n, l.length ≤ n ∧ ∀ wx, (∃ m, wx = w.drewN m) → wx.shape? g = some (5, n) := by
      have ho' := ho
      rcases ho.2 with ⟨_, hz⟩ | ⟨g, cap, cur, hv, hg, hh, hn, hm, hcs, htk⟩
      · rw [nn_length] at hz; omega
      · rw [nn_length] at hv hn
        subst hv
        refine ⟨g, cap, rfl, hg, hn, hm, fun wx ⟨m, e⟩ i hi => ?_, cur.size, by omega, fun wx ⟨m, e⟩ => ?_⟩
        · subst e
          have := OwnB.cell (ho'.drewN m) (j := i) (by rw [nn_length]; exact hi)
          rw [nn_getD] at this
          exact this
        · subst e
          simp [World.shape?, hh]
    subst hv
    obtain ⟨n, hn, hsh⟩ := hshape
    obtain ⟨L, hL⟩ : ∃ L, (tx l).data.toList = L := ⟨_, rfl⟩
    have hLs : L.map (·.toNat) = l := by
      have := sl_tx hy
      unfold sl at this
      rw [hL] at this
      exact this
    have hLl : L.length = l.length := by rw [← hLs, List.length_map]
    have hLt : (⟨L.toArray⟩ : ByteArray) = tx l := by rw [← hL]
    have h1 : ∀ wx : World, (Builtin.unsafeSliceData_ #[45] 58 #[.slice (some ⟨g, 0, none⟩) l.length cap]).run Try.prog wx = .ok (.pointer (some ⟨g, 0, none⟩)) wx := fun wx => Lib.run_unsafeSliceData_row wx _ _ _ _ _ (by omega)
    have h2 : ∀ wx, (∃ m, wx = w.drewN m) → (Builtin.unsafeString_ #[58, 3] 9 #[.pointer (some ⟨g, 0, none⟩), .int .i64 (l.length : Int)]).run Try.prog wx = .ok (.string (tx l)) (wx.freeze ⟨g, 0, none⟩ l.length) := fun wx hx => by
      have := Lib.run_unsafeString_row (P := Try.prog) wx 58 3 9 5 Try.underlying58 cells_byte g n (hsh wx hx) L (by intro e; rw [e] at hLl; simp at hLl; omega) (by omega) (by omega) (fun j x hj => by
        have hjl : j < l.length := by have := (List.getElem?_eq_some_iff.1 hj).1; omega
        have := hcell wx hx j hjl
        rw [Addr.add_mid, Nat.zero_add, this]
        have e : l.getD j 0 = x.toNat := by rw [← hLs, List.getD_eq_getElem?_getD, List.getElem?_map, hj]; rfl
        rw [e])
      rw [hLl, hLt] at this
      exact this
    have hc : ∀ wx, (∃ m, wx = w.drewN m) → wx.cell? ⟨b, 1, none⟩ = some (.slice (some ⟨g, 0, none⟩) l.length cap) := fun wx ⟨m, e⟩ => by
      subst e
      have := (hb.below (below_drewN (Below.refl _ _) m) hb.lt).cell 1
      simpa using this
    have HC := Lib.hid hc
    have H2 := Lib.hid h2
    clear hb ho hnil hp hc h2 hcell hsh hL hLs hLt hLl hn
    generalize tx l = X at *
    go_enter Try.func24, Try.ntmps24
    go_wp2_with fail
    refine region_drew_tail 10 mixed (by kernel_rfl) ?_
    simp only [List.take_succ_cons, List.take_zero, List.drop_succ_cons, List.drop_zero]
    repeat (first | (refine wpQuiet_load_one rfl 45 _ rfl ⟨b, 1, none⟩ rfl (.slice (some ⟨g, 0, none⟩) l.length cap) HC.out Try.underlying45 rfl ?_) | go_big_quiet_step (fail) | (refine wpQuiet_step (fun K' hK' => ?_); go_simp; first | (refine hK' _ ?_; clear hK' K') | (refine ⟨_, fun _ _ => rfl, hK' _ ?_⟩; clear hK' K')))
    refine wpQuiet_nil ?_
    rintro w7 ⟨k7, rfl⟩
    have q2 := H2.out (w.drewN k7) ⟨_, rfl⟩
    have hb7 : Below base w ((w.drewN k7).freeze ⟨g, 0, none⟩ l.length) := Lib.below_freeze (below_drewN (Below.refl _ _) _) hbg _
    go_wp2
    go_ret
    exact ⟨rfl, hb7⟩
end Go.Proofs.Ytgjbnpghhelpoaa
namespace Go.Proofs.Ytgjbnpghhelpoaa
open Go.RowKit
set_option linter.unusedVariables false

theorem solid_bys {l : List (List Nat × List Nat)} (h : ∀ f ∈ l, Bys f.2) : Bys (solidF l) := Bys.of fun x hx => by
  obtain ⟨f, hf, hx⟩ := List.mem_flatMap.1 hx
  exact (h f hf).mem hx
set_option maxRecDepth 100000 in
set_option maxHeartbeats 2000000 in
theorem f_Solid (l : List (List Nat × List Nat)) (p : Option Addr) (cap : Nat) (w : World) (hl : l.length ≤ 1000) (hd : ∀ f ∈ l, f.2.length ≤ 100000) (hy : ∀ f ∈ l, Bys f.2) (hS : Sl w 2 (.slice p l.length cap) (rowsF l)) :
    Calls Try.prog 14 #[.slice p l.length cap] w fun e w' => e = .returned (.string (tx (solidF l))) ∧ Below w.heap.size w w' := by
  have HS := Lib.hid hS
  have HD := Lib.hid hd
  have HY := Lib.hid hy
  have HB0 := Lib.hid (Bld.new w w.heap.size (Nat.le_refl _))
  have KB := Lib.hid ((Below.refl w.heap.size w).alloc (Nat.le_refl _) (.cells #[.pointer none, .slice none 0 0] 47))
  obtain ⟨B, hB⟩ : ∃ B, w.heap.size = B := ⟨_, rfl⟩
  have HBE := Lib.hid hB
  clear hS hd hy
  go_enter Try.func14, Try.ntmps14
  go_wp2
  go_loopw [8] (fun i wr => ∃ j : Nat, j ≤ l.length ∧ i = .int .i64 (j : Int) ∧ Bld wr B B (solidF (l.take j)) ∧ Below B w wr) (fun i _ => l.length - (intOf i).toNat)
  case atStart => exact ⟨0, by omega, rfl, by rw [← HBE.out]; exact HB0.out, by rw [← HBE.out]; exact KB.out⟩
  case round =>
    obtain ⟨j, hj, rfl, bl, gb⟩ := hrel
    clear HB0 KB
    by_cases hlt : j < l.length
    · have gb0 : Below w.heap.size w wr := by rw [HBE.out]; exact gb
      obtain ⟨a, rfl, hc⟩ := (HS.out.below gb0).row (rowsF_at hlt)
      have d1 : (j : Int) < (l.length : Int) := by omega
      have HC := Lib.hid hc
      obtain ⟨T, hT⟩ : ∃ T, wr.heap.size = T := ⟨_, rfl⟩
      have k1 := Blk.new' wr 40 (c := #[.string ⟨#[]⟩, .string ⟨#[]⟩]) [.string ⟨#[]⟩, .string ⟨#[]⟩] rfl
      have k2 := k1.row (rowF (l.getD j noF)) rfl
      have kb := below_setRow ((Below.refl wr.heap.size wr).alloc (Nat.le_refl _) (.cells #[.string ⟨#[]⟩, .string ⟨#[]⟩] 40)) (Nat.le_refl wr.heap.size) (rowF (l.getD j noF)).toArray
      have bl2 := bl.keep kb
      have gb2 := gb.trans (kb.mono (by rw [← HBE.out]; exact gb0.size))
      have h1 := rowF_one (l.getD j noF)
      have h2 : (rowF (l.getD j noF)).length = 2 := rfl
      have hR : rowF (l.getD j noF) = [.string (tx (l.getD j noF).1), .string (tx (l.getD j noF).2)] := rfl
      have hlen1 := solid_take l HD.out j
      have hlen2 := HD.out _ (getF_mem hlt)
      have hsn := solid_snoc l hlt
      have hsl := sl_tx (HY.out _ (getF_mem hlt))
      have hsz := tx_size (l.getD j noF).2
      have HSN : Hid (solidF (l.take (j + 1)) = solidF (l.take j) ++ sl (tx (l.getD j noF).2)) := Lib.hid (by rw [hsl]; exact hsn)
      have HBD : Hid ((solidF (l.take j)).length + (tx (l.getD j noF).2).size ≤ 1000000000) := Lib.hid (by rw [hsz]; omega)
      rw [hT] at k1 k2 bl2 gb2
      have K1 := Lib.hid k1
      have BL := Lib.hid bl2
      have GB := Lib.hid gb2
      have HT := Lib.hid hT
      clear hc kb bl gb gb0 bl2 gb2 k1 hsl hsz hsn hlen1 hlen2
      generalize rowF (l.getD j noF) = R at *
      generalize tx (l.getD j noF).1 = X at *
      generalize tx (l.getD j noF).2 = Y at *
      generalize solidF (l.take j) = LS at *
      have K2 := Lib.hid k2
      have HR := Lib.hid hR
      clear k2 hR
      go_wp2_with (first | (refine wpList_load_addr rfl 40 _ rfl _ rfl R HC.out Try.underlying40 rfl (by rw [size_file, h2]) ?_) | (refine wpList_store_blk rfl 40 _ _ rfl T R rfl rfl K1.out (by rw [size_file, h2]) h2.symm h1 ?_; obtain ⟨w2, hw2⟩ : ∃ w2, (wr.alloc (.cells #[.string ⟨#[]⟩, .string ⟨#[]⟩] 40)).setRow T R.toArray = w2 := ⟨_, rfl⟩; rw [hw2] at K2 BL GB ⊢; have c1 := K2.out.cell 1; rw [HR.out] at c1; simp only [List.getElem?_cons_zero, List.getElem?_cons_succ] at c1; clear hw2))
      have hbs : B ≤ w2.heap.size := by have := GB.out.size; rw [HBE.out] at this; exact this
      (with_reducible refine (b_WriteString w2 B B LS Y BL.out HBD.out hbs).mono ?_)
      rintro e w3 ⟨rfl, bl3, hb3⟩
      have HB3 := Lib.hid bl3
      have HG3 := Lib.hid (GB.out.trans hb3)
      clear bl3 hb3 K1 K2 BL GB
      go_wp2
      go_roundw
      case rel => exact ⟨j + 1, by omega, by go_num, by rw [HSN.out]; exact HB3.out, HG3.out⟩
      case measure => simp [intOf]; omega
    · obtain rfl : j = l.length := by omega
      rw [List.take_length] at bl
      have hlen := solid_len (l := l) HD.out
      have hbs : B ≤ wr.heap.size := by have := gb.size; rw [HBE.out] at this; exact this
      have HSt := Lib.hid (b_String wr B B (solidF l) bl (solid_bys HY.out) (by have : 100000 * l.length ≤ 100000 * 1000 := Nat.mul_le_mul_left _ hl; omega))
      have GB := Lib.hid gb
      clear bl gb hlen
      go_wp2_with fail
      (with_reducible refine HSt.out.mono ?_)
      rintro e w3 ⟨rfl, hb3⟩
      have G3 := Lib.hid (GB.out.trans hb3)
      clear hb3
      go_wp2
      go_ret
      exact ⟨rfl, by rw [HBE.out]; exact G3.out⟩
end Go.Proofs.Ytgjbnpghhelpoaa
namespace Go.Proofs.Ytgjbnpghhelpoaa
open Go.RowKit
set_option linter.unusedVariables false

theorem make_strs (n : Nat) (h : n ≤ 1000000) (w : World) : (Instr.makeSlice 25 (.int .i64 (n : Int)) (.int .i64 (n : Int))).run Try.prog w = .ok (.slice (some ⟨w.heap.size, 0, none⟩) n n) (w.alloc (.cells (List.replicate n (Value.string ⟨#[]⟩)).toArray 9)) := by
  obtain ⟨i0, hi0, hz0, hz1, hz2⟩ := info_parts2 info_str
  have hr := run_make (P := Try.prog) w 25 9 i0 (.string ⟨#[]⟩) Try.underlying25 hi0 hz0 .i64 .i64 n n (by omega) (Int.le_refl _) (by rw [hz2]; omega) (by omega)
  simp only [Int.toNat_natCast, hz1, Nat.mul_one] at hr
  have e : madeCells (Value.string ⟨#[]⟩).cells n = (List.replicate n (Value.string ⟨#[]⟩)).toArray := by
    apply Array.ext'
    rw [show (Value.string ⟨#[]⟩).cells = #[.string ⟨#[]⟩] from rfl, toList_madeCells_one]
  rw [hr, e]
theorem make_intsK (n : Nat) (h : n ≤ 1000000) (w : World) : (Instr.makeSlice 26 (.int .i64 (n : Int)) (.int .i64 (n : Int))).run Try.prog w = .ok (.slice (some ⟨w.heap.size, 0, none⟩) n n) (w.alloc (.cells (List.replicate n (Value.int .i64 0)).toArray 3)) := by
  obtain ⟨i0, hi0, hz0, hz1, hz2⟩ := info_parts2 info_intK
  have hr := run_make (P := Try.prog) w 26 3 i0 (.int .i64 0) Try.underlying26 hi0 hz0 .i64 .i64 n n (by omega) (Int.le_refl _) (by rw [hz2]; omega) (by omega)
  simp only [Int.toNat_natCast, hz1, Nat.mul_one] at hr
  have e : madeCells (Value.int .i64 0).cells n = (List.replicate n (Value.int .i64 0)).toArray := by
    apply Array.ext'
    rw [show (Value.int .i64 0).cells = #[.int .i64 0] from rfl, toList_madeCells_one]
  rw [hr, e]
/-- cells of which the first j are written -/
def doneC (z : Value) (L : List Value) (j : Nat) : List Value := L.take j ++ List.replicate (L.length - j) z
theorem doneC_none (z : Value) (L : List Value) : doneC z L 0 = List.replicate L.length z := by simp [doneC]
theorem doneC_all (z : Value) (L : List Value) : doneC z L L.length = L := by simp [doneC]
theorem doneC_len (z : Value) (L : List Value) (j : Nat) (h : j ≤ L.length) : (doneC z L j).length = L.length := by simp [doneC]; omega
theorem doneC_set (z : Value) (L : List Value) {j : Nat} {x : Value} (h : L[j]? = some x) : (doneC z L j).set j x = doneC z L (j + 1) := by
  have hj : j < L.length := (List.getElem?_eq_some_iff.1 h).1
  have hx : L[j] = x := (List.getElem?_eq_some_iff.1 h).2
  unfold doneC
  rw [List.set_append_right _ _ (by rw [List.length_take]; omega), List.length_take, Nat.min_eq_left (by omega), Nat.sub_self, List.take_succ_eq_append_getElem hj, hx, List.append_assoc]
  congr 1
  obtain ⟨k, hk⟩ : ∃ k, L.length - j = k + 1 := ⟨L.length - j - 1, by omega⟩
  rw [hk, show L.length - (j + 1) = k by omega, List.replicate_succ]
  rfl
theorem doneC_at (z : Value) (L : List Value) {j : Nat} (h : j < L.length) : (doneC z L j)[j]? = some z := by
  unfold doneC
  rw [List.getElem?_append_right (by rw [List.length_take]; omega), List.getElem?_replicate, if_pos (by rw [List.length_take]; omega)]
def nameC (l : List (List Nat × List Nat)) : List Value := l.map fun f => .string (tx f.1)
def sizeC (l : List (List Nat × List Nat)) : List Value := l.map fun f => .int .i64 (f.2.length : Int)
theorem nameC_at {l : List (List Nat × List Nat)} {j : Nat} (h : j < l.length) : (nameC l)[j]? = some (.string (tx (l.getD j noF).1)) := by simp [nameC, h]
theorem sizeC_at {l : List (List Nat × List Nat)} {j : Nat} (h : j < l.length) : (sizeC l)[j]? = some (.int .i64 ((l.getD j noF).2.length : Int)) := by simp [sizeC, h]
theorem nameC_flat (l : List (List Nat × List Nat)) : nameC l = (rowsS (namesF l)).flatten := by
  induction l with
  | nil => rfl
  | cons f l ih => unfold nameC rowsS namesF at ih ⊢; simp [ih]
theorem sizeC_flat (l : List (List Nat × List Nat)) : sizeC l = (rowsZ (sizesF l)).flatten := by
  induction l with
  | nil => rfl
  | cons f l ih => unfold sizeC rowsZ sizesF at ih ⊢; simp [ih]
theorem sl_whole {w : World} {b k cap : Nat} {t : TypeId} {rows : List (List Value)} (hk : ∀ r ∈ rows, r.length = k) (h : Blk w b t rows.flatten) : Sl w k (.slice (some ⟨b, 0, none⟩) rows.length cap) rows := sl_blkS (rest := []) hk (by rw [List.append_nil]; exact h)
def NamesP (l : List (List Nat × List Nat)) (w : World) (e : Ending) (w' : World) : Prop :=
  ∃ p q : Option Addr, e = .returned (.tuple #[.slice p l.length l.length, .slice q l.length l.length]) ∧ Sl w' 1 (.slice p l.length l.length) (rowsS (namesF l)) ∧ Sl w' 1 (.slice q l.length l.length) (rowsZ (sizesF l)) ∧ Below w.heap.size w w'
/-- the worlds in which a round's two stores stand -/
def nmC (w : World) (T G : Nat) (R cn cn' cs : List Value) (b : Bool) (W : World) : Prop := Blk W T 40 R ∧ Blk W G 9 (if b then cn' else cn) ∧ Blk W (G + 1) 3 cs ∧ Below w.heap.size w W
def nmS (T G n j : Nat) (X Y : ByteArray) (i : Nat) (v : Value) (W : World) : Prop :=
  match i with
  | 0 => v = .slice (some ⟨G, 0, none⟩) n n
  | 1 | 3 => v = .int .i64 (j : Int)
  | 2 => v = .slice (some ⟨G + 1, 0, none⟩) n n
  | 4 => v = .pointer (some ⟨T, 0, none⟩)
  | 5 => v = .string X
  | 6 => v = .pointer (some ⟨T, 1, none⟩)
  | 7 => v = .string Y
  | 8 => v = .int .i64 (Y.size : Int)
  | 9 => v = .pointer (some ⟨G, j, none⟩)
  | 11 => v = .pointer (some ⟨G + 1, j, none⟩)
  | _ => True
theorem nmS_mono {T G n j : Nat} {X Y : ByteArray} (i : Nat) (v : Value) (W W' : World) (h : nmS T G n j X Y i v W) : nmS T G n j X Y i v W' :=
  match i with
  | 0 | 1 | 2 | 3 | 4 | 5 | 6 | 7 | 8 | 9 | 10 | 11 => h
  | _ + 12 => trivial
set_option maxRecDepth 100000 in
set_option maxHeartbeats 4000000 in
theorem f_Names (l : List (List Nat × List Nat)) (p : Option Addr) (cap : Nat) (w : World) (hl : l.length ≤ 1000000) (hS : Sl w 2 (.slice p l.length cap) (rowsF l)) :
    Calls Try.prog 10 #[.slice p l.length cap] w (NamesP l w) := by
  have hm1 := fun w => make_strs l.length hl w
  have hm2 := fun w => make_intsK l.length hl w
  have HS := Lib.hid hS
  obtain ⟨G, hG⟩ : ∃ G, w.heap.size = G := ⟨_, rfl⟩
  have hNL : (nameC l).length = l.length := by simp [nameC]
  have hZL : (sizeC l).length = l.length := by simp [sizeC]
  have k1 := (Blk.new' w 9 (c := (List.replicate l.length (Value.string ⟨#[]⟩)).toArray) _ rfl).alloc (.cells (List.replicate l.length (Value.int .i64 0)).toArray 3)
  have k2 := Blk.new' (w.alloc (.cells (List.replicate l.length (Value.string ⟨#[]⟩)).toArray 9)) 3 (c := (List.replicate l.length (Value.int .i64 0)).toArray) _ rfl
  have kb := ((Below.refl w.heap.size w).alloc (Nat.le_refl _) (.cells (List.replicate l.length (Value.string ⟨#[]⟩)).toArray 9)).alloc (by simp) (.cells (List.replicate l.length (Value.int .i64 0)).toArray 3)
  have kz : ((w.alloc (.cells (List.replicate l.length (Value.string ⟨#[]⟩)).toArray 9)).alloc (.cells (List.replicate l.length (Value.int .i64 0)).toArray 3)).heap.size = G + 2 := by simp [hG]
  simp only [World.size_alloc] at k2
  have e1 := doneC_none (.string ⟨#[]⟩) (nameC l)
  have e2 := doneC_none (.int .i64 0) (sizeC l)
  rw [hNL] at e1
  rw [hZL] at e2
  rw [← e1, hG] at k1
  rw [← e2, hG] at k2
  simp only [← e1, ← e2] at hm1 hm2 k1 k2 kb kz
  have K1 := Lib.hid k1
  have K2 := Lib.hid k2
  have KB := Lib.hid kb
  have KZ := Lib.hid kz
  have HG := Lib.hid hG
  clear hS k1 k2 kb kz e1 e2 hNL hZL
  go_enter Try.func10, Try.ntmps10
  go_wp2
  go_loopw [16] (fun i wr => ∃ j : Nat, j ≤ l.length ∧ i = .int .i64 (j : Int) ∧ Blk wr G 9 (doneC (.string ⟨#[]⟩) (nameC l) j) ∧ Blk wr (G + 1) 3 (doneC (.int .i64 0) (sizeC l) j) ∧ Below w.heap.size w wr ∧ G + 2 ≤ wr.heap.size) (fun i _ => l.length - (intOf i).toNat)
  case atStart => exact ⟨0, by omega, rfl, K1.out, K2.out, KB.out, by rw [KZ.out]; exact Nat.le_refl _⟩
  case round =>
    obtain ⟨j, hj, rfl, b1, b2, gb, gz⟩ := hrel
    clear K1 K2 KB KZ hm1 hm2
    by_cases hlt : j < l.length
    · obtain ⟨a, rfl, hc⟩ := (HS.out.below gb).row (rowsF_at hlt)
      have d1 : (j : Int) < (l.length : Int) := by omega
      have HC := Lib.hid hc
      obtain ⟨T, hT⟩ : ∃ T, wr.heap.size = T := ⟨_, rfl⟩
      have k1 := Blk.new' wr 40 (c := #[.string ⟨#[]⟩, .string ⟨#[]⟩]) [.string ⟨#[]⟩, .string ⟨#[]⟩] rfl
      have k2 := k1.row (rowF (l.getD j noF)) rfl
      have kb := below_setRow ((Below.refl wr.heap.size wr).alloc (Nat.le_refl _) (.cells #[.string ⟨#[]⟩, .string ⟨#[]⟩] 40)) (Nat.le_refl wr.heap.size) (rowF (l.getD j noF)).toArray
      have b1' := b1.below kb (by omega)
      have b2' := b2.below kb (by omega)
      have gb' := gb.trans (kb.mono gb.size)
      have h1 := rowF_one (l.getD j noF)
      have h2 : (rowF (l.getD j noF)).length = 2 := rfl
      have hnx := nameC_at hlt
      have hzx := sizeC_at hlt
      rw [← tx_size] at hzx
      have hset1 := doneC_set (.string ⟨#[]⟩) (nameC l) hnx
      have hset2 := doneC_set (.int .i64 0) (sizeC l) hzx
      have hat1 := doneC_at (.string ⟨#[]⟩) (nameC l) (j := j) (by simp [nameC]; omega)
      have hat2 := doneC_at (.int .i64 0) (sizeC l) (j := j) (by simp [sizeC]; omega)
      have hR : rowF (l.getD j noF) = [.string (tx (l.getD j noF).1), .string (tx (l.getD j noF).2)] := rfl
      rw [hT] at k1 k2 b1' b2' gb'
      have K1 := Lib.hid k1
      have K2 := Lib.hid k2
      have B1 := Lib.hid b1'
      have B2 := Lib.hid b2'
      have GB := Lib.hid gb'
      have S1 := Lib.hid hset1
      have S2 := Lib.hid hset2
      have A1 := Lib.hid hat1
      have A2 := Lib.hid hat2
      have HR := Lib.hid hR
      have HT := Lib.hid hT
      clear hc k1 k2 kb b1 b2 b1' b2' gb gb' hnx hzx hset1 hset2 hat1 hat2 hR
      generalize rowF (l.getD j noF) = R at *
      generalize tx (l.getD j noF).1 = X at *
      generalize tx (l.getD j noF).2 = Y at *
      obtain ⟨CN', hCN⟩ : ∃ C, doneC (.string ⟨#[]⟩) (nameC l) (j + 1) = C := ⟨_, rfl⟩
      obtain ⟨CS', hCS⟩ : ∃ C, doneC (.int .i64 0) (sizeC l) (j + 1) = C := ⟨_, rfl⟩
      rw [hCN] at S1
      rw [hCS] at S2
      have HCN := Lib.hid hCN
      have HCS := Lib.hid hCS
      clear hCN hCS
      generalize doneC (.string ⟨#[]⟩) (nameC l) j = CN at *
      generalize doneC (.int .i64 0) (sizeC l) j = CS at *
      go_wp2_with (first | (refine wpList_load_addr rfl 40 _ rfl _ rfl R HC.out Try.underlying40 rfl (by rw [size_file, h2]) ?_) | (refine wpList_store_blk rfl 40 _ _ rfl T R rfl rfl K1.out (by rw [size_file, h2]) h2.symm h1 ?_))
      obtain ⟨w2, hw2⟩ : ∃ w2, (wr.alloc (.cells #[.string ⟨#[]⟩, .string ⟨#[]⟩] 40)).setRow T R.toArray = w2 := ⟨_, rfl⟩
      rw [hw2] at K2 B1 B2 GB ⊢
      have hsz : Hid (w2.heap.size = T + 1) := Lib.hid (by rw [← hw2]; simp [hT])
      have hne : Hid (T ≠ G ∧ T ≠ G + 1) := Lib.hid (by omega)
      clear hw2 K1 h1 h2 hT
      rw [HR.out] at K2
      clear HR HC
      refine region_mix 10 12 (by decide) mixed (by kernel_rfl) (by kernel_rfl) (fun u => #[_, _, _, _, _, _, _, _, _, _, _, _, _, _, _, _, _, _, _, _, _, u 0, u 1, u 2, u 3, u 4, u 5, u 6, u 7, u 8, u 9, u 11, _, _, _]) [] (fun i => match i with | 0 => _ | 1 => _ | 2 => _ | 3 => _ | 4 => _ | 5 => _ | 6 => _ | 7 => _ | 8 => _ | 9 => _ | 11 => _ | _ => undef) rfl
        (nmC w T G [.string X, .string Y] CN CN' CS) ⟨K2.out, B1.out, B2.out, GB.out.drew⟩ (fun _ _ _ => True) (nmS T G l.length j X Y) ?mono ?step ?one ?last
      case mono => exact fun b i v W W' _ h _ => nmS_mono i v W W' h
      case step =>
        intro bb u W i o hi hik _ ho hC hd
        rcases i with _ | _ | _ | _ | _ | _ | _ | _ | _ | _ | _ | _ | i
        all_goals try (simp only [List.getElem?_cons_zero, List.getElem?_cons_succ, Option.some.injEq] at ho; subst ho)
        · go_wp2_with fail
          exact ⟨_, rfl, rfl, hC, trivial⟩
        · go_wp2_with fail
          exact ⟨_, rfl, rfl, hC, trivial⟩
        · go_wp2_with fail
          exact ⟨_, rfl, rfl, hC, trivial⟩
        · go_wp2_with fail
          exact ⟨_, rfl, rfl, hC, trivial⟩
        · go_wp2_with fail
          exact ⟨_, rfl, rfl, hC, trivial⟩
        · have h0 : u 4 = .pointer (some ⟨T, 0, none⟩) := hd ⟨4, .data⟩ (by simp) rfl
          have c := hC.1.cell 0
          simp only [List.getElem?_cons_zero] at c
          rw [h0]
          go_wp2_with fail
          exact ⟨_, by simp [upd, h0], rfl, hC, trivial⟩
        · go_wp2_with fail
          exact ⟨_, rfl, rfl, hC, trivial⟩
        · have h0 : u 6 = .pointer (some ⟨T, 1, none⟩) := hd ⟨6, .data⟩ (by simp) rfl
          have c := hC.1.cell 1
          simp only [List.getElem?_cons_zero, List.getElem?_cons_succ] at c
          rw [h0]
          go_wp2_with fail
          exact ⟨_, by simp [upd, h0], rfl, hC, trivial⟩
        · have h0 : u 7 = .string Y := hd ⟨7, .data⟩ (by simp) rfl
          rw [h0]
          go_wp2_with fail
          exact ⟨_, by simp [upd, h0], rfl, hC, trivial⟩
        · have h0 : u 0 = .slice (some ⟨G, 0, none⟩) l.length l.length := hd ⟨0, .data⟩ (by simp) rfl
          have h1 : u 1 = .int .i64 (j : Int) := hd ⟨1, .data⟩ (by simp) rfl
          rw [h0, h1]
          go_wp2_with fail
          exact ⟨_, by simp [upd, h0, h1], rfl, hC, trivial⟩
        · omega
        · have h0 : u 2 = .slice (some ⟨G + 1, 0, none⟩) l.length l.length := hd ⟨2, .data⟩ (by simp) rfl
          have h1 : u 3 = .int .i64 (j : Int) := hd ⟨3, .data⟩ (by simp) rfl
          rw [h0, h1]
          go_wp2_with fail
          exact ⟨_, by simp [upd, h0, h1], rfl, hC, trivial⟩
        · omega
      case one =>
        intro u W o ho hC hd
        simp only [List.getElem?_cons_zero, List.getElem?_cons_succ, Option.some.injEq] at ho
        subst ho
        have h9 : u 9 = .pointer (some ⟨G, j, none⟩) := hd ⟨9, .data⟩ (by simp) rfl
        have h5 : u 5 = .string X := hd ⟨5, .data⟩ (by simp) rfl
        have hB : Blk W G 9 CN := hC.2.1
        have c := hB.cell j
        rw [A1.out] at c
        have f := hB.free j
        have hC' : nmC w T G [.string X, .string Y] CN CN' CS true (W.setCell ⟨G, j, none⟩ (.string X)) :=
          ⟨hC.1.other (a := ⟨G, j, none⟩) (fun e => hne.out.1 e.symm) _, by have := hB.set j (.string X); rw [S1.out] at this; exact this, hC.2.2.1.other (a := ⟨G, j, none⟩) (by simp) _, hC.2.2.2.setCell (p := ⟨G, j, none⟩) (by rw [HG.out]; exact Nat.le_refl _) _⟩
        have HC' := Lib.hid hC'
        clear hC hB hd hC'
        rw [h9, h5]
        go_wp2_with fail
        exact ⟨undef, by simp [upd, h9, h5], trivial, HC'.out, trivial⟩
      case last =>
        intro u W o ho hC hS
        simp only [List.getElem?_cons_zero, List.getElem?_cons_succ, Option.some.injEq] at ho
        subst ho
        have h11 : u 11 = .pointer (some ⟨G + 1, j, none⟩) := hS 11 (by decide)
        have h8 : u 8 = .int .i64 (Y.size : Int) := hS 8 (by decide)
        clear hS
        have hB : Blk W (G + 1) 3 CS := hC.2.2.1
        have c := hB.cell j
        rw [A2.out] at c
        have f := hB.free j
        have q1 : Blk (W.setCell ⟨G + 1, j, none⟩ (.int .i64 (Y.size : Int))) G 9 CN' := hC.2.1.other (a := ⟨G + 1, j, none⟩) (by simp) _
        have q2 := hB.set j (.int .i64 (Y.size : Int))
        rw [S2.out] at q2
        have q3 := hC.2.2.2.setCell (p := ⟨G + 1, j, none⟩) (by show w.heap.size ≤ G + 1; rw [HG.out]; omega) (.int .i64 (Y.size : Int))
        have q4 := q2.lt
        have Q1 := Lib.hid q1
        have Q2 := Lib.hid q2
        have Q3 := Lib.hid q3
        clear hC hB q1 q2 q3
        rw [h11, h8]
        go_wp2_with fail
        go_roundw
        case rel => exact ⟨j + 1, by omega, by go_num, by rw [HCN.out]; exact Q1.out, by rw [HCS.out]; exact Q2.out, Q3.out, by omega⟩
        case measure => simp [intOf]; omega
    · obtain rfl : j = l.length := by omega
      have hNL : (nameC l).length = l.length := by simp [nameC]
      have hZL : (sizeC l).length = l.length := by simp [sizeC]
      have e1 := doneC_all (.string ⟨#[]⟩) (nameC l)
      have e2 := doneC_all (.int .i64 0) (sizeC l)
      rw [hNL] at e1
      rw [hZL] at e2
      rw [e1, nameC_flat] at b1
      rw [e2, sizeC_flat] at b2
      have s1 := sl_whole (k := 1) (cap := l.length) (fun r hr => by simp only [rowsS, List.mem_map] at hr; obtain ⟨q, _, rfl⟩ := hr; rfl) b1
      have s2 := sl_whole (k := 1) (cap := l.length) (fun r hr => by simp only [rowsZ, List.mem_map] at hr; obtain ⟨q, _, rfl⟩ := hr; rfl) b2
      rw [rowsS_len, names_len] at s1
      rw [rowsZ_len, sizes_len] at s2
      have S1 := Lib.hid s1
      have S2 := Lib.hid s2
      clear s1 s2 b1 b2 e1 e2 hNL hZL
      go_wp2
      go_ret2
      exact ⟨_, _, rfl, S1.out, S2.out, gb⟩
end Go.Proofs.Ytgjbnpghhelpoaa
namespace Go.Proofs.Ytgjbnpghhelpoaa
open Go.RowKit Go.Shelf
set_option linter.unusedVariables false

attribute [local go_sem] Oper.semAt_some

/-- the first k pieces -/
def pcL (s : List Nat) (k : Nat) : List (List Nat) := (List.range k).map (pieceF s)
theorem pcL_snoc (s : List Nat) (k : Nat) : pcL s (k + 1) = pcL s k ++ [pieceF s k] := cut_snoc s k
theorem pcL_len (s : List Nat) (k : Nat) : (pcL s k).length = k := by simp [pcL]
theorem pcL_all (s : List Nat) : pcL s (pcs s) = cutF s := rfl
set_option maxRecDepth 100000 in
set_option maxHeartbeats 2000000 in
/-- the iterator, for every body that keeps its block -/
theorem f_pc_in (n l G : Nat) (s : ByteArray) (hs : s.size ≤ 10000000) (J Jx : List (List Nat) → World → Prop) (hn : 2 ≤ n) (W : World)
    (hY : ∀ pre x W1, J pre W1 → pre.length < s.size → YieldAt Fence.wide (n - 1) Try.prog l #[.string (tx (x : List Nat))] W1 fun e W' =>
      (e = .returned (.bool true) ∧ J (pre ++ [x]) W' ∧ (∀ o, W1.heap[G]? = some o → W'.heap[G]? = some o)) ∨ (e = .returned (.bool false) ∧ Jx (pre ++ [x]) W'))
    (hG : Blk W G 9 [.string s]) (h0 : J [] W) :
    CallsIn Fence.wide n Try.prog 28 #[.func (.yield l) #[] #[], .pointer (some ⟨G, 0, none⟩)] W fun e W' => (∃ v, e = .returned v) ∧
      ((∃ ys, ys = cutF (sl s) ∧ J ys W') ∨ (∃ pre, True ∧ Jx pre W')) := by
  refine callsIn_of_wp Try.func28 rfl trivial ?_ rfl
  simp only [Try.ntmps28, List.size_toArray, List.length_cons, List.length_nil, Nat.reduceAdd, Nat.reduceSub, Array.replicate_succ, Array.replicate_zero, List.push_toArray, List.append_toArray, List.nil_append, List.cons_append]
  gi_wp2
  gi_loopw [3] (fun v wr => ∃ k : Nat, k ≤ pcs (sl s) ∧ v = .int .i64 ((256 * k : Nat) : Int) ∧ J (pcL (sl s) k) wr ∧ Blk wr G 9 [.string s]) (fun v _ => s.size + 256 - (intOf v).toNat)
  case atStart => exact ⟨0, by omega, rfl, h0, hG⟩
  case round =>
    obtain ⟨k, hk, rfl, gJ, gG⟩ := hrel
    have c1 := gG.cell 0
    simp only [List.getElem?_cons_zero] at c1
    have hz := sl_len s
    by_cases hlt : k < pcs (sl s)
    · have hlt2 := pcs_lt.1 hlt
      rw [hz] at hlt2
      obtain ⟨i, hi⟩ : ∃ i, 256 * k = i := ⟨_, rfl⟩
      obtain ⟨N, hN⟩ : ∃ N, N = min (256 * k + 256) s.size := ⟨_, rfl⟩
      have hp := piece_tx s k N hN
      have e1 := pcL_snoc (sl s) k
      have hl1 := pcL_len (sl s) k
      obtain ⟨fn, tmps, assign, body, hy, hR⟩ := hY (pcL (sl s) k) (pieceF (sl s) k) wr gJ (by rw [hl1]; omega)
      rw [hi] at hlt2 hN hp ⊢
      have E1 := Lib.hid e1
      have HI := Lib.hid hi
      have GG := Lib.hid gG
      have HR := Lib.hid hR
      clear e1 hi gG hl1 gJ hG h0 hY hz hR
      generalize tx (pieceF (sl s) k) = X at *
      have d1 : (i : Int) < (s.size : Int) := by omega
      have i1 : (i : Int) ≤ (N : Int) := by omega
      have i2 : (N : Int) ≤ (s.size : Int) := by omega
      have fin : ∀ (e : Ending) (W3 : World), ((e = .returned (.bool true) ∧ J (pcL (sl s) k ++ [pieceF (sl s) k]) W3 ∧ (∀ o, wr.heap[G]? = some o → W3.heap[G]? = some o)) ∨ (e = .returned (.bool false) ∧ Jx (pcL (sl s) k ++ [pieceF (sl s) k]) W3)) →
          (e = .returned (.bool true) ∧ J (pcL (sl s) (k + 1)) W3 ∧ Blk W3 G 9 [.string s]) ∨ (e = .returned (.bool false) ∧ ∃ pre, Jx pre W3) := by
        rintro e W3 (⟨h1, h2, h3⟩ | ⟨h1, h2⟩)
        · exact .inl ⟨h1, by rw [E1.out]; exact h2, h3 _ GG.out⟩
        · exact .inr ⟨h1, _, h2⟩
      have HF := Lib.hid fin
      clear fin
      by_cases hm : s.size < i + 256
      · have m1 : (s.size : Int) < (i : Int) + 256 := by omega
        have e2 : N = s.size := by omega
        subst e2
        clear hN hm
        gi_wp2
        first | refine HR.out.mono ?_ | refine ⟨fun _ => by omega, HR.out.mono ?_⟩
        intro e W3 h3
        rcases HF.out e W3 h3 with ⟨rfl, hJ3, hG3⟩ | ⟨rfl, pre, hJx3⟩
        · have HJ3 := Lib.hid hJ3
          have HG3 := Lib.hid hG3
          clear hJ3 hG3 h3 HF HR
          gi_wp2
          go_roundw
          case rel => exact ⟨k + 1, by omega, by rw [show 256 * (k + 1) = i + 256 by have := HI.out; omega]; go_num, HJ3.out, HG3.out⟩
          case measure => simp [intOf]; omega
        · gi_wp2
          refine bodyPost_ret (results_none rfl _ _ _) rfl ?_
          exact ⟨⟨_, rfl⟩, .inr ⟨_, trivial, hJx3⟩⟩
      · have m1 : ¬ (s.size : Int) < (i : Int) + 256 := by omega
        obtain rfl : N = i + 256 := by omega
        have i3 : ((i + 256 : Nat) : Int) = (i : Int) + 256 := by omega
        clear hN hm
        gi_wp2
        first | refine HR.out.mono ?_ | refine ⟨fun _ => by omega, HR.out.mono ?_⟩
        intro e W3 h3
        rcases HF.out e W3 h3 with ⟨rfl, hJ3, hG3⟩ | ⟨rfl, pre, hJx3⟩
        · have HJ3 := Lib.hid hJ3
          have HG3 := Lib.hid hG3
          clear hJ3 hG3 h3 HF HR
          gi_wp2
          go_roundw
          case rel => exact ⟨k + 1, by omega, by rw [show 256 * (k + 1) = i + 256 by have := HI.out; omega]; go_num, HJ3.out, HG3.out⟩
          case measure => simp [intOf]; omega
        · gi_wp2
          refine bodyPost_ret (results_none rfl _ _ _) rfl ?_
          exact ⟨⟨_, rfl⟩, .inr ⟨_, trivial, hJx3⟩⟩
    · obtain rfl : k = pcs (sl s) := by omega
      have d1 : ¬ (((256 * pcs (sl s) : Nat) : Int)) < (s.size : Int) := by
        have : ¬ 256 * pcs (sl s) < (sl s).length := fun h => hlt (pcs_lt.2 h)
        omega
      have HJ := Lib.hid gJ
      clear gJ
      generalize 256 * pcs (sl s) = m at *
      gi_wp2
      go_end0
      exact ⟨⟨_, rfl⟩, .inl HJ.out⟩
theorem f_pieces (s : ByteArray) (w : World) :
    Calls Try.prog 25 #[.string s] w fun e w' => e = .returned (.func (.func 28) #[] #[.pointer (some ⟨w.heap.size, 0, none⟩)]) ∧ w' = w.alloc (.cells #[.string s] 9) := by
  go_enter Try.func25, Try.ntmps25
  go_wp2
  go_ret
  exact ⟨rfl, rfl⟩
theorem f_stops (n G : Nat) (s : ByteArray) (hs : s.size ≤ 10000000) (hn : 2 ≤ n) (w : World) (hG : Blk w G 9 [.string s]) :
    SeqStopsK Fence.wide n Try.prog 28 #[.pointer (some ⟨G, 0, none⟩)] (fun x : List Nat => #[Value.string (tx x)]) (fun A B => ∀ o, A.heap[G]? = some o → B.heap[G]? = some o) (fun ys => ys = cutF (sl s)) (fun _ => True) s.size w := fun l J Jx W hW _ _ hY h0 =>
  f_pc_in n l G s hs J Jx hn W hY (hG.below hW hG.lt) h0
set_option maxRecDepth 100000 in
set_option maxHeartbeats 2000000 in
theorem f_Cut (s : ByteArray) (w : World) (hs : s.size ≤ 10000000) :
    Calls Try.prog 17 #[.string s] w (OwnRetR 9 1 (rowsS (cutF (sl s))) w) := by
  refine (callsIn_wide (n := 9)).1 (callsIn_of_wp_marks Try.func17 rfl trivial ?_ rfl)
  simp only [Try.ntmps17, List.size_toArray, List.length_cons, List.length_nil, Nat.reduceAdd, Nat.reduceSub, Array.replicate_succ, Array.replicate_zero, List.push_toArray, List.append_toArray, List.nil_append, List.cons_append]
  refine wpIn_wide.2 ?_
  go_wp2_with (go_at_call 25; (with_reducible refine (f_pieces _ _).mono ?_); rintro e w9 ⟨rfl, rfl⟩)
  obtain ⟨Z, hZ⟩ : ∃ Z, w.heap.size = Z := ⟨_, rfl⟩
  have K1 := (Blk.new' w 25 (c := #[.slice none 0 0]) [.slice none 0 0] rfl).alloc (.cells #[.string s] 9)
  have K3 := Blk.newAt (w.alloc (.cells #[.slice none 0 0] 25)) (w.heap.size + 1) (by simp) 9 (c := #[.string s]) [.string s] rfl
  have Kb := ((Below.refl w.heap.size w).alloc (Nat.le_refl _) (.cells #[.slice none 0 0] 25)).alloc (by simp) (.cells #[.string s] 9)
  have Kn : ((w.alloc (.cells #[.slice none 0 0] 25)).alloc (.cells #[.string s] 9)).heap.size = w.heap.size + 2 := by simp
  generalize World.alloc (World.alloc w _) _ = w4 at *
  rw [hZ] at K1 K3 Kb Kn
  rw [hZ]
  have hKb : ∀ (W : World) (l : Nat) (o o' : Obj), w4.heap.size ≤ l → W.heap[l]? = some o → o.isCells = false → o.isWalk = false → ∀ o2, W.heap[Z + 1]? = some o2 → (W.putObj l o').heap[Z + 1]? = some o2 := fun W l o o' hl _ _ _ o2 ho2 =>
    (World.putObj_heap_other (by omega)).trans ho2
  refine (wpIn_wide (n := 9)).1 ?_
  refine wpIn_rangeFunc_ownF (F := Fence.wide) (n := 9) rfl (by omega) (gf := 28) (lb := #[.pointer (some ⟨Z + 1, 0, none⟩)]) rfl trivial (enters_of Try.func28 (by kernel_rfl) rfl)
    (f_stops 8 (Z + 1) s hs (by omega) w4 K3) (fun h k o ho => k o (h o ho)) hKb (Below.refl _ _) (fun _ => rfl)
    (fun pre W => (Blk W (Z + 1) 9 [.string s] ∧ ∃ v, Blk W Z 25 [v] ∧ OwnR W (Z + 2) 9 1 v (rowsS pre)) ∧ Below Z w W)
    (fun _ _ _ => False)
    (OwnFrom.and (Own.from (fun s A B row hs hg hr => ⟨hs.1.kept hg hr, hs.2.elim fun v h => ⟨v, h.1.kept hg hr, h.2.kept hg hr⟩⟩) _) (ownFrom_below (by omega) (by omega)))
    (fun _ _ _ _ _ hs _ _ => hs)
    ⟨⟨K3, _, K1, OwnR.nil _ _ _ _⟩, Kb⟩
    (fun x => { tmps := #[.string s, undef, .slice none 0 0, .pointer (some ⟨Z, 0, none⟩), .string (tx x), .string s, .func (.func 28) #[] #[.pointer (some ⟨Z + 1, 0, none⟩)], .string (tx x), undef, undef, undef, undef, undef], defers := [] }) ?assign ?body ?done ?stop
  case assign =>
    intro lp x W K hK
    gi_wp2
    exact hK
  case body =>
    rintro lp pre x W ⟨⟨h5, v, h3, h4⟩, hb⟩ hlt
    obtain ⟨i0, hi0, hz0, hz1, hz2⟩ := info_parts2 info_str
    have hrs : rowsS (pre ++ [x]) = rowsS pre ++ [[.string (tx x)]] := rowsS_snoc pre x
    have hll : (rowsS pre).length = pre.length := rowsS_len pre
    obtain ⟨X, hX⟩ : ∃ X, tx x = X := ⟨_, rfl⟩
    rw [hX] at hrs
    obtain ⟨R, hR⟩ : ∃ R, rowsS pre = R := ⟨_, rfl⟩
    rw [hR] at h4 hll hrs
    have hown : (W.alloc (.cells #[.string X] 9)).ownsRow (Z + 2) 9 1 v pre.length R.flatten := by
      have := (h4.alloc (.cells #[.string X] 9)).2
      rw [hll] at this
      exact this
    have hnew : ∀ jj u, [Value.string X][jj]? = some u → (W.alloc (.cells #[.string X] 9)).cell? ((⟨W.heap.size, 0, none⟩ : Addr).add jj) = some u := fun jj u h => by
      rw [Addr.add_mid]
      exact (Blk.new' W 9 [Value.string X] rfl).whole jj u h
    have hone : ∀ u ∈ [Value.string X], u.oneCell' = true := by simp [Value.oneCell']
    have h63 : pre.length + 1 ≤ maxLen := by simp [maxLen]; omega
    have hbyy : (pre.length + 1) * 16 ≤ 140737488355328 := by omega
    have hWz : Z + 2 ≤ W.heap.size := by have := h5.lt; omega
    have hbase : Z + 2 ≤ (W.alloc (.cells #[.string X] 9)).heap.size := by simp; omega
    have hge : ∀ b, v.ownBlock = some b → Z + 2 ≤ b := fun b hb => (h4.lt b hb).1
    have a1 := h3.alloc (.cells #[.string X] 9)
    have a3 := h5.alloc (.cells #[.string X] 9)
    have ab := hb.alloc (show Z ≤ W.heap.size by omega) (.cells #[.string X] 9)
    have hcells : ∀ (j : Nat) (o : Obj), v.ownBlock = some j → (W.alloc (.cells #[.string X] 9)).heap[j]? = some o → o.isCells = true := (h4.alloc _).isCells
    have h4k := h4.1
    obtain ⟨p, cap, rfl⟩ := h4.isSlice
    have key : ∀ v5 w5, w5.ownsRow (Z + 2) 9 1 v5 (pre.length + 1) (R.flatten ++ [.string X]) → (W.alloc (.cells #[.string X] 9)).grownBy w5 (Value.slice p R.length cap).ownBlock →
        (w5.cell? ⟨Z, 0, none⟩ = some (.slice p R.length cap) ∧ w5.frozen? ⟨Z, 0, none⟩ = false) ∧
        KeepsOthers W (w5.setCell ⟨Z, 0, none⟩ v5) ∧ (∀ o, W.heap[Z + 1]? = some o → (w5.setCell ⟨Z, 0, none⟩ v5).heap[Z + 1]? = some o) ∧
        ((Blk (w5.setCell ⟨Z, 0, none⟩ v5) (Z + 1) 9 [.string s] ∧ ∃ v, Blk (w5.setCell ⟨Z, 0, none⟩ v5) Z 25 [v] ∧ OwnR (w5.setCell ⟨Z, 0, none⟩ v5) (Z + 2) 9 1 v (rowsS (pre ++ [x]))) ∧ Below Z w (w5.setCell ⟨Z, 0, none⟩ v5)) := by
      intro v5 w5 hown5 hg5
      have b1 := a1.grownO hg5 (fun i hi => by have := hge i hi; omega)
      have b3 := a3.grownO hg5 (fun i hi => by have := hge i hi; omega)
      have bb := ab.grown hg5 (by simp; omega) (fun i hi => by have := hge i hi; omega)
      have o5 : OwnR w5 (Z + 2) 9 1 v5 (rowsS (pre ++ [x])) := by
        rw [hrs]
        refine ⟨fun r hr => ?_, ?_⟩
        · rcases List.mem_append.1 hr with hr | hr
          · exact h4k r hr
          · rw [List.mem_singleton.1 hr]; rfl
        · rw [List.length_append, hll, List.flatten_append]
          exact hown5
      have c3 := b3.other (a := ⟨Z, 0, none⟩) (show Z ≠ Z + 1 by omega) v5
      refine ⟨⟨b1.cell 0, b1.free 0⟩, (KeepsOthers.alloc W _).trans ((KeepsOthers.of_grownBy hg5 hcells).trans (KeepsOthers.setCell w5 _ _)), fun o ho => ?_, ⟨c3, v5, b1.set 0 v5, o5.cellOther b1 (by decide) 0 v5⟩, bb.setCell (p := ⟨Z, 0, none⟩) (Nat.le_refl Z) v5⟩
      have e1 : some o = some (.cells #[.string s] 9 (0, 0)) := by rw [← ho]; exact h5
      rw [e1]
      exact c3
    have c1 := h3.cell 0
    simp only [List.getElem?_cons_zero] at c1
    have HKey := Lib.hid key
    have HRow := Lib.hid hown
    have HNew := Lib.hid hnew
    have HOne := Lib.hid hone
    have H63 := Lib.hid h63
    have HBY := Lib.hid hbyy
    have HBS := Lib.hid hbase
    clear key hown hnew hone h63 hbyy hbase a1 a3 ab hcells h4k h3 h4 h5 hb hge hWz hrs hll K1 K3 Kb hKb
    rw [hX]
    clear hX hR
    gi_wp2_with (gi_at_builtin; refine wpListIn_append_own_at _ rfl _ _ 25 rfl (Z + 2) 9 i0 (.string ⟨#[]⟩) 1 16 Try.underlying25 hi0 hz0 hz1 hz2 rfl (by decide) _ pre.length _ rfl HRow.out ⟨W.heap.size, 0, none⟩ 1 1 [.string X] rfl rfl HNew.out HOne.out H63.out HBY.out HBS.out ?_; intro v5 w5 hown5 hg5 hnil5 hat5; obtain ⟨p5, cap5, rfl⟩ := own_slice hown5; obtain ⟨⟨q1, q2⟩, hfin⟩ := HKey.out _ w5 hown5 hg5; have HFin := Lib.hid hfin; clear hown5 hg5 hnil5 hat5 hfin)
    exact HFin.out
  case done =>
    rintro D ys W hD rfl ⟨⟨_, v, h3, h4⟩, hb⟩ hK
    obtain ⟨p, cap, rfl⟩ := h4.isSlice
    have c1 := h3.cell 0
    simp only [List.getElem?_cons_zero] at c1
    have H4 := Lib.hid h4
    have HB := Lib.hid hb
    clear K1 K3 Kb h3 h4 hb hKb
    go_wp2
    refine ⟨by simp, .inl ⟨_, _, rfl, run_takeDeferred hK, ?_⟩⟩
    have o2 := H4.out.kept (grownBy_putObj' W D (.deferred none)) (fun r e => by cases e; exact ⟨_, hK, rfl⟩)
    have b1 := HB.out
    rw [← hZ] at b1 o2
    exact ⟨_, results_tmp rfl _ _ _, _, rfl, o2.lower (by omega), b1.trans (belowK_b (w := w) (Nat.le_refl _) _ D _ _ (by omega) hK rfl rfl)⟩
  case stop =>
    rintro D c pre W _ _ h _
    exact h.elim
end Go.Proofs.Ytgjbnpghhelpoaa
namespace Go.Proofs.Ytgjbnpghhelpoaa
open Go.RowKit
set_option linter.unusedVariables false

set_option maxRecDepth 100000 in
set_option maxHeartbeats 1000000 in
theorem l11_shown (w : World) :
    Calls Try.prog 9 #[] w fun e w' => e = .returned (.bool true) ∧ Below w.heap.size w w' := by
  have k1 := Blk.new' w 40 (c := #[.string ⟨#[97]⟩, .string ⟨#[120]⟩, .string ⟨#[98]⟩, .string ⟨#[121, 122]⟩]) ((rowsF [([97], [120]), ([98], [121, 122])]).flatten ++ []) rfl
  have s1 := sl_blkS (k := 2) (cap := 2) (fun r hr => by simp [rowsF, rowF] at hr; rcases hr with rfl | rfl <;> rfl) k1
  have h1 := f_Solid [([97], [120]), ([98], [121, 122])] (some ⟨w.heap.size, 0, none⟩) 2 _ (by decide) (fun f hf => by simp at hf; rcases hf with rfl | rfl <;> decide) (fun f hf => by simp at hf; rcases hf with rfl | rfl <;> exact Bys.of (by decide)) s1
  have h2 := fun w : World => f_Check [] none 0 0 w rfl (fun f hf => by cases hf) (by decide) (Sl.none 2)
  have hb := (Below.refl w.heap.size w).alloc (Nat.le_refl _) (.cells #[.string ⟨#[97]⟩, .string ⟨#[120]⟩, .string ⟨#[98]⟩, .string ⟨#[121, 122]⟩] 40)
  have e1 : tx (solidF [([97], [120]), ([98], [121, 122])]) = ⟨#[120, 121, 122]⟩ := by rfl
  rw [e1] at h1
  have H1 := Lib.hid h1
  have H2 := Lib.hid h2
  have HB := Lib.hid hb
  clear k1 s1 h1 h2 hb e1
  go_enter Try.func9, Try.ntmps9
  go_wp2_with (first | (go_at_call 14; (refine H1.out.mono ?_); rintro e w1 ⟨rfl, hb1⟩) | (go_at_call 12; (refine (H2.out _).mono ?_); rintro e w2 ⟨rfl, hb2⟩))
  go_ret
  have hb3 := HB.out.trans (hb1.mono HB.out.size)
  exact ⟨rfl, hb3.trans (hb2.mono hb3.size)⟩
end Go.Proofs.Ytgjbnpghhelpoaa
