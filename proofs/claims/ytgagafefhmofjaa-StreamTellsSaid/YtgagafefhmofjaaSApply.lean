/- Walk of stream's Apply. -/
import Derived.Test.YtgagafefhmofjaaSPad
namespace Go.Proofs.Ytgagafefhmofjaa
open Go.RowKit Go.Shelf
set_option linter.unusedVariables false

/-- a text's bytes -/
def sl (s : ByteArray) : List Nat := s.data.toList.map (·.toNat)
theorem sl_len (s : ByteArray) : (sl s).length = s.size := by simp [sl]
theorem is_sl (s : ByteArray) : is s = nn (sl s) := by simp [is, sl, nn]
theorem sl_bys (s : ByteArray) : Bys (sl s) := by
  intro j
  unfold sl
  rw [List.getD_eq_getElem?_getD, List.getElem?_map]
  cases h : s.data.toList[j]? with
  | none => decide
  | some b => exact b.toNat_lt
/-- the bytes l, those of P added to the first i of them -/
def xrF (l : List Nat) (f : Nat → Nat) (i j : Nat) : Nat := if j < i then l.getD j 0 ^^^ f j else l.getD j 0
def xrP (l : List Nat) (f : Nat → Nat) (i : Nat) : List Nat := (List.range l.length).map (xrF l f i)
def xrL (l : List Nat) (f : Nat → Nat) : List Nat := xrP l f l.length
theorem xrP_len (l : List Nat) (f : Nat → Nat) (i : Nat) : (xrP l f i).length = l.length := by simp [xrP]
theorem xrP_zero (l : List Nat) (f : Nat → Nat) : xrP l f 0 = l := getD_ext l.length (xrP_len _ _ _) rfl fun j hj => by
  unfold xrP
  rw [map_range_getD _ _ _ hj]
  exact if_neg (by omega)
theorem xrP_at (l : List Nat) (f : Nat → Nat) (i : Nat) (hi : i < l.length) : (xrP l f i).getD i 0 = l.getD i 0 := by
  unfold xrP
  rw [map_range_getD _ _ _ hi]
  exact if_neg (by omega)
theorem xrP_succ (l : List Nat) (f : Nat → Nat) (i : Nat) (hi : i < l.length) : xrP l f (i + 1) = (xrP l f i).set i (l.getD i 0 ^^^ f i) := getD_ext l.length (xrP_len _ _ _) (by rw [List.length_set, xrP_len]) fun j hj => by
  rw [getD_set _ _ _ _ (by rw [xrP_len]; exact hi)]
  unfold xrP
  rw [map_range_getD _ _ _ hj, map_range_getD _ _ _ hj]
  unfold xrF
  by_cases e : i = j
  · subst e; rw [if_pos rfl, if_pos (by omega)]
  · rw [if_neg e]
    by_cases h2 : j < i
    · rw [if_pos h2, if_pos (by omega)]
    · rw [if_neg h2, if_neg (by omega)]
theorem xrL_len (l : List Nat) (f : Nat → Nat) : (xrL l f).length = l.length := xrP_len _ _ _
theorem xrL_getD (l : List Nat) (f : Nat → Nat) (j : Nat) (hj : j < l.length) : (xrL l f).getD j 0 = l.getD j 0 ^^^ f j := by
  unfold xrL xrP
  rw [map_range_getD _ _ _ hj]
  exact if_pos hj

theorem OwnM.free {w : World} {base : Nat} {e : TypeId} {g n cap : Nat} {l : List Int} (h : OwnM w base e (.slice (some ⟨g, 0, none⟩) n cap) l) {j : Nat} (hj : j < l.length) : w.frozen? ⟨g, j, none⟩ = false := by
  rcases h with ⟨hv, h0⟩ | ⟨g', cap', cur, fz, hv, _, hh, hfz, hn, _, hcs, htk⟩
  · cases hv
  · cases hv
    have := hfz j (by omega)
    simp only [World.frozen?, hh]
    obtain ⟨lo, hi⟩ := fz
    simp only [Bool.and_eq_false_iff, decide_eq_false_iff_not]
    simp only at this
    omega
theorem OwnM.set {w : World} {base : Nat} {e : TypeId} {g n cap : Nat} {l : List Int} (h : OwnM w base e (.slice (some ⟨g, 0, none⟩) n cap) l) {j : Nat} (hj : j < l.length) (x : Int) : OwnM (w.setCell ⟨g, j, none⟩ (.int .u8 x)) base e (.slice (some ⟨g, 0, none⟩) n cap) (l.set j x) := by
  rcases h with ⟨hv, h0⟩ | ⟨g', cap', cur, fz, hv, hg, hh, hfz, hn, hm, hcs, htk⟩
  · cases hv
  · cases hv
    refine .inr ⟨g, cap, cur.setIfInBounds j (.int .u8 x), fz, by rw [List.length_set], hg, ?_, hfz, by rw [List.length_set]; exact hn, hm, by simpa using hcs, ?_⟩
    · simp only [World.setCell]
      rw [Array.getElem?_modify]
      simp [hh]
    · rw [List.length_set, Array.toList_setIfInBounds, List.take_set, htk, ints_set]
theorem OwnM.other {w : World} {base : Nat} {e : TypeId} {g n cap : Nat} {l : List Int} (h : OwnM w base e (.slice (some ⟨g, 0, none⟩) n cap) l) {b j : Nat} (hb : b ≠ g) (V : Value) : OwnM (w.setCell ⟨b, j, none⟩ V) base e (.slice (some ⟨g, 0, none⟩) n cap) l := by
  rcases h with ⟨hv, h0⟩ | ⟨g', cap', cur, fz, hv, hg, hh, r⟩
  · cases hv
  · cases hv
    refine .inr ⟨g, cap, cur, fz, rfl, hg, ?_, r⟩
    simp only [World.setCell]
    rw [Array.getElem?_modify]
    rw [if_neg (by omega)]
    exact hh
section
variable {P : Program} {ops : Array Oper} {rest : List Oper} {o : Oper} {a : Act} {w : World} {Q : Exit → Act → World → Prop}
/-- a string's bytes, as a slice of the call's own; where it lies -/
theorem wpList_bytes_at (hgd : o.guard = none) (src dst e : TypeId) (x : Operand) (ho : o.op = .convert src dst x) (base : Nat) (s : ByteArray)
    (hx : a.eval x = .string s) (hs : P.underlying src = some .string) (hd : P.underlying dst = some (.slice e)) (he : P.underlying e = some (.int .u8)) (hbase : base ≤ w.heap.size)
    (hsm : s.size ≤ maxLen)
    (h : ∀ cap w', OwnM w' base e (.slice (some ⟨w.heap.size, 0, none⟩) s.size cap) (is s) → Below w.heap.size w w' → wpList P ops Q rest (a.put o.dst (.slice (some ⟨w.heap.size, 0, none⟩) s.size cap)) w') : wpList P ops Q (o :: rest) a w :=
  wpList_plain hgd fun _ hK => by
    have hcap := grownCap_le_maxLen w s.size 0 e hsm
    unfold Oper.wp execOp
    simp only [ho, hx, Sem.run_bind, Lib.run_convert_string_bytes (P := P) w src dst e s hs hd he, Result.andThen_ok]
    refine hK _ _ (h _ _ ?_ ?_)
    · have hge := grownCap_ge w s.size 0 e
      have hsz : (Lib.bytesCells w e s).size = grownCap w s.size 0 e := by
        simp [Lib.bytesCells]; omega
      refine .inr ⟨w.heap.size, grownCap w s.size 0 e, Lib.bytesCells w e s, _, by rw [is_length], hbase, Lib.bytesWorld_at_new w e s, fun j hj => by rw [hsz]; simp; omega, by rw [is_length]; exact hge, hcap, hsz, ?_⟩
      rw [is_length]
      simp [Lib.bytesCells, ints, is, Function.comp_def]
    · refine ⟨rfl, rfl, rfl, ?_, fun k hk => Lib.bytesWorld_at_old w e s k (by omega)⟩
      rw [Lib.bytesWorld_size]; omega
end

theorem s_Pad (key nc : List Nat) (N : Nat) (w : World) (hk : key.length = 32) (hkb : Bys key) (hn : nc.length = 16) (hnb : Bys nc) (hN : N ≤ 65536) :
    Calls Try.prog 22 #[.agg (ints .u8 (nn key)).toArray, .agg (ints .u8 (nn nc)).toArray, .int .i64 (N : Int)] w fun e w' => e = .returned (.string (bs (nn (padL key nc N)))) ∧ Below w.heap.size w w' := by
  by_cases h : N = 0
  · subst h
    exact s_Pad_none _ _ _ w (by decide)
  · exact s_Pad_some key nc N w hk hkb hn hnb (by omega) hN

set_option maxRecDepth 100000 in
set_option maxHeartbeats 400000 in
theorem s_Apply (key nc : List Nat) (s : ByteArray) (w : World) (hk : key.length = 32) (hkb : Bys key) (hn : nc.length = 16) (hnb : Bys nc) (hs : s.size ≤ 65536) :
    Calls Try.prog 20 #[.agg (ints .u8 (nn key)).toArray, .agg (ints .u8 (nn nc)).toArray, .string s] w fun e w' => e = .returned (.string (bs (nn (xrL (sl s) (padF key nc))))) ∧ Below w.heap.size w w' := by
  obtain ⟨R, hR⟩ : ∃ R, xrL (sl s) (padF key nc) = R := ⟨_, rfl⟩
  rw [hR]
  have HK := Lib.hid hk
  have HN := Lib.hid hn
  have hP := fun w => s_Pad key nc s.size w hk hkb hn hnb hs
  have hpl := padL_len key nc s.size
  have hpf := padF_lt key nc
  have hpg : ∀ j, j < s.size → (padL key nc s.size).getD j 0 = padF key nc j := fun j hj => by unfold padL; exact map_range_getD _ _ _ hj
  generalize padL key nc s.size = PL at hP hpl hpg
  generalize padF key nc = pf at hR hpf hpg
  have HR := Lib.hid hR
  have hpo : is (bs (nn PL)) = nn PL := is_bs _ (by
    intro x hx
    obtain ⟨j, hj, rfl⟩ := List.getElem_of_mem hx
    rw [nn_length, hpl] at hj
    have h1 := hpg j hj
    have h2 := hpf j
    simp only [nn, List.getElem_map]
    rw [List.getD_eq_getElem?_getD, List.getElem?_eq_getElem (by omega)] at h1
    simp only [Option.getD_some] at h1
    omega)
  have hps : (bs (nn PL)).size = s.size := by rw [bs_size, nn_length, hpl]
  have hsl := sl_len s
  have hsb := sl_bys s
  have HPO := Lib.hid hpo
  have HPS := Lib.hid hps
  have HP := Lib.hid hP
  have HPL := Lib.hid hpl
  have HPF := Lib.hid hpf
  have HPG := Lib.hid hpg
  have HSL := Lib.hid hsl
  have HSB := Lib.hid hsb
  clear hR hk hn hP hpl hpf hpg hsl hsb hpo hps
  have k0 : Blk ((w.alloc (.cells (ints .u8 (nn key)).toArray 23)).alloc (.cells (ints .u8 (nn nc)).toArray 28)) w.heap.size 23 (ints .u8 (nn key)) := (Blk.new _ _ _).alloc _
  have k1 : Blk ((w.alloc (.cells (ints .u8 (nn key)).toArray 23)).alloc (.cells (ints .u8 (nn nc)).toArray 28)) (w.heap.size + 1) 28 (ints .u8 (nn nc)) := Blk.new2 _ _ _ _ rfl
  have kb : Below w.heap.size w ((w.alloc (.cells (ints .u8 (nn key)).toArray 23)).alloc (.cells (ints .u8 (nn nc)).toArray 28)) := ((Below.refl _ _).alloc (Nat.le_refl _) _).alloc (by simp) _
  have hsm : s.size ≤ maxLen := by simp [maxLen]; omega
  go_enter Try.func20, Try.ntmps20
  go_wp2_with (first | (refine wpList_bytes_at rfl 9 52 5 _ rfl w.heap.size s rfl Try.underlying9 Try.underlying52 Try.underlying5 kb.size hsm ?_; intro cap w3 how hb3; have i0 := k0.below hb3 k0.lt; have i1 := k1.below hb3 k1.lt) | (refine wpList_load_blk rfl 23 _ rfl _ rfl i0 Try.underlying23 rfl (by rw [size_hash, ints_length, nn_length, HK.out]) ?_) | (refine wpList_load_blk rfl 28 _ rfl _ rfl i1 Try.underlying28 rfl (by rw [size_b16, ints_length, nn_length, HN.out]) ?_))
  refine (HP.out _).mono ?_
  rintro e w4 ⟨rfl, hb4⟩
  have jb := (kb.trans (hb3.mono kb.size))
  have jb4 := jb.trans (hb4.mono jb.size)
  have jo := how.keep hb4
  have hz3 := hb3.size
  simp only [World.size_alloc] at hz3
  have hz4 := hb4.size
  clear k0 k1 kb hb3 hb4 jb how i0 i1
  simp only [World.size_alloc] at jo
  have hpm : (bs (nn PL)).size ≤ maxLen := by rw [HPS.out]; exact hsm
  go_wp2_with (refine wpList_bytes_at rfl 9 52 5 _ rfl w.heap.size (bs (nn PL)) rfl Try.underlying9 Try.underlying52 Try.underlying5 jb4.size hpm ?_; intro cap5 w5 how5 hb5)
  rw [HPO.out, HPS.out] at how5
  rw [HPS.out]
  have qo := jo.keep hb5
  have qb := jb4.trans (hb5.mono jb4.size)
  have hne : w4.heap.size ≠ w.heap.size + 1 + 1 := by have := (jo.lt (w.heap.size + 1 + 1) rfl).2; omega
  have hb1 : w.heap.size ≤ w.heap.size + 1 + 1 := by omega
  rw [is_sl] at qo
  have hgl := HSL.out
  clear jo jb4 hz3 hz4 hb5
  generalize w4.heap.size = B5 at *
  generalize hsz : sl s = l at *
  have hx0 := xrP_zero l pf
  rw [← hx0] at qo
  have HPG' := HPG.out
  have hll := hgl
  clear hx0 hsz
  obtain ⟨n, hn⟩ : ∃ n, s.size = n := ⟨_, rfl⟩
  have Hn := Lib.hid hn
  rw [hn] at qo how5 HPG' hll ⊢
  have HG := Lib.hid HPG'
  have HLL := Lib.hid hll
  have hn6 : n ≤ 65536 := hn ▸ hs
  clear HPG' hll hgl hn hs
  go_loopw [19] (fun i wr => ∃ j : Nat, j ≤ n ∧ i = .int .i64 (j : Int) ∧ OwnM wr w.heap.size 5 (.slice (some ⟨w.heap.size + 1 + 1, 0, none⟩) n cap) (nn (xrP l pf j)) ∧ OwnM wr w.heap.size 5 (.slice (some ⟨B5, 0, none⟩) n cap5) (nn PL) ∧ Below w.heap.size w wr) (fun i _ => n - (intOf i).toNat)
  case atStart => exact ⟨0, by omega, rfl, qo, how5, qb⟩
  case round =>
    obtain ⟨j, hj, rfl, go, gp, gb⟩ := hrel
    clear qo how5 qb
    by_cases hlt : j < n
    · have d1 : (j : Int) < (n : Int) := by omega
      have d2 : (j : Int) < 65536 := by omega
      have hpl : j < (nn PL).length := by rw [nn_length, HPL.out, Hn.out]; exact hlt
      have hol : j < (nn (xrP l pf j)).length := by rw [nn_length, xrP_len, HLL.out]; exact hlt
      have c5 := gp.cell hpl
      have co := go.cell hol
      have cf := go.free hol
      rw [nn_getD, HG.out j hlt] at c5
      rw [nn_getD, xrP_at l pf j (by rw [HLL.out]; exact hlt)] at co
      have hb1' := HPF.out j
      have hb2' := HSB.out j
      have hx := xor_byte (l.getD j 0) (pf j) hb2' hb1'
      have hsu := xrP_succ l pf j (by rw [HLL.out]; exact hlt)
      have hgo := go.set hol ((l.getD j 0 ^^^ pf j : Nat) : Int)
      rw [nn_set, ← hsu] at hgo
      have hgp := gp.other (b := w.heap.size + 1 + 1) (j := j) (fun h => hne h.symm) (.int .u8 ((l.getD j 0 ^^^ pf j : Nat) : Int))
      have hgb := gb.setCell (p := ⟨w.heap.size + 1 + 1, j, none⟩) hb1 (.int .u8 ((l.getD j 0 ^^^ pf j : Nat) : Int))
      have Hgo := Lib.hid hgo
      have Hgp := Lib.hid hgp
      have Hgb := Lib.hid hgb
      clear hpl hol hsu go gp gb hgo hgp hgb
      generalize l.getD j 0 ^^^ pf j = y at *
      generalize l.getD j 0 = xv at *
      generalize pf j = pv at *
      go_wp2
      go_roundw
      case rel => exact ⟨j + 1, by omega, by go_num, Hgo.out, Hgp.out, Hgb.out⟩
      case measure => simp [intOf]; omega
    · obtain rfl : j = n := by omega
      have hE : xrP l pf j = R := by rw [← HR.out]; unfold xrL; rw [HLL.out]
      rw [hE] at go
      go_wp2_with (refine wpList_string_ownM rfl 52 9 5 _ rfl w.heap.size _ _ rfl Try.underlying52 Try.underlying5 Try.underlying9 go ?_)
      go_ret
      exact ⟨rfl, gb⟩
end Go.Proofs.Ytgagafefhmofjaa
