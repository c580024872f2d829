/- Walk of a journal's Open. -/
import Derived.Test.YtmonenbnjnjahaaYTx
import Derived.Test.YtmonenbnjnjahaaG4
import Derived.Test.YtmonenbnjnjahaaG1
import Derived.Maps.OwnIn
namespace Go.Proofs.Ytmonenbnjnjahaa
open Go.RowKit Go.Shelf
set_option linter.unusedVariables false

attribute [local go_sem] Oper.semAt_some

theorem j_frames (s : ByteArray) (w : World) :
    Calls Try.prog 20 #[.string s] w fun e w' => e = .returned (.func (.func 36) #[] #[.pointer (some ⟨w.heap.size, 0, none⟩)]) ∧ w' = w.alloc (.cells #[.string s] 9) := by
  go_enter Try.func20, Try.ntmps20
  go_wp2
  go_ret
  exact ⟨rfl, rfl⟩
theorem j_fstops (n G : Nat) (s : ByteArray) (m : Nat) (hm : s.size = 32 * m) (hs : m ≤ 1000) (hn : 2 ≤ n) (w : World) (hG : Blk w G 9 [.string s]) :
    SeqStopsK Fence.wide n Try.prog 36 #[.pointer (some ⟨G, 0, none⟩)] (fun x : {x : List Nat × Nat // x.2 ≤ m} => #[Value.string (tx x.val.1), Value.int .i64 (x.val.2 : Int)]) (fun A B => ∀ o, A.heap[G]? = some o → B.heap[G]? = some o) (fun ys => ys.map (·.val) = frJ (sl s) 0) (fun _ => True) m w := fun l J Jx W hW hJ _ hY h0 => by
  refine (j_fr_in n l G s m hm hs (fun pre W => ∃ ys : List ({x : List Nat × Nat // x.2 ≤ m}), ys.map (·.val) = pre ∧ J ys W) (fun pre W => ∃ ys : List ({x : List Nat × Nat // x.2 ≤ m}), ys.map (·.val) = pre ∧ Jx ys W) hn W ?_ ?_ (hG.below hW hG.lt) ⟨[], rfl, h0⟩).mono ?_
  · rintro pre X Y row ⟨ys, e, h⟩ hg hr
    exact ⟨ys, e, hJ ys X Y row h hg hr⟩
  · rintro pre x W1 hx ⟨ys, rfl, h⟩ hlt
    refine (hY ys ⟨x, hx⟩ W1 h (by simpa using hlt)).mono ?_
    rintro e W' (⟨h1, h2, h3⟩ | ⟨h1, h2⟩)
    · exact .inl ⟨h1, ⟨_, by simp, h2⟩, h3⟩
    · exact .inr ⟨h1, ⟨_, by simp, h2⟩⟩
  · rintro e W' ⟨h1, (⟨_, h2, ys, h3, h4⟩ | ⟨_, h2, ys, h3, h4⟩)⟩
    · exact ⟨h1, .inl ⟨ys, h3.trans h2, h4⟩⟩
    · exact ⟨h1, .inr ⟨ys, trivial, h4⟩⟩
theorem size_ju : (Try.prog.info? 55).map (·.size) = some 4 := by kernel_rfl
set_option maxRecDepth 100000 in
set_option maxHeartbeats 2000000 in
theorem j_Open {w : World} {base D S M k : Nat} {E : DataW Unit} {V : Nat → Value} {q : Option (Nat × Int)} {d : DiskM} (h : DkW w base D S M k E V q d) (hb : DkB d) (hon : offD d = false) (fr to : Nat) (hlt : fr < to) (hto : to ≤ d.sec.length) (hbig : to ≤ 1000) (l : List (List Nat)) (u : Nat) (hs : scanK (areaD d fr (to - fr)) = (l, u)) :
    Calls Try.prog 8 #[ptD D, .int .i64 (fr : Int), .int .i64 (to : Int)] w fun x w' => ∃ J p c, x = .returned (.tuple #[ptD J, .slice p l.length c, .int .i64 0]) ∧ w.heap.size ≤ J ∧
      DkW w' base D S M k E V q d ∧ Turn base w w' (foot D S M V q) (foot D S M V q) ∧ Blk w' J 55 (juV D ⟨fr, to, fr + u⟩) ∧ OwnR w' w.heap.size 9 1 (.slice p l.length c) (rowsS l) := by
  have hw : base ≤ w.heap.size := by have := h.blk.lt; have := h.hD; omega
  have hfl : ∀ i, foot D S M V q i → i < w.heap.size := fun i hi => (h.lt i hi).2
  obtain ⟨F, hF⟩ : ∃ F, foot D S M V q = F := ⟨_, rfl⟩
  obtain ⟨A, hA⟩ : ∃ A, tx (areaD d fr (to - fr)) = A := ⟨_, rfl⟩
  have hAs : sl A = areaD d fr (to - fr) := by rw [← hA, sl_tx (areaD_bys hb.bys _ _)]
  have hAz : A.size = 32 * (to - fr) := by rw [← sl_len, hAs, areaD_len hb.ok (by omega)]
  have hscan := frJ_scan (sl A)
  rw [hAs, hs, ← hAs] at hscan
  -- the parameter's block
  obtain ⟨Z, hZ⟩ : ∃ Z, w.heap.size = Z := ⟨_, rfl⟩
  obtain ⟨w1, hw1⟩ : ∃ w1, w.alloc (.cells #[.int .i64 (fr : Int)] 3) = w1 := ⟨_, rfl⟩
  have hb1 : Below Z w w1 := by rw [← hw1, ← hZ]; exact (Below.refl w.heap.size w).alloc (Nat.le_refl _) _
  have kZ : Blk w1 Z 3 [.int .i64 (fr : Int)] := by rw [← hw1, ← hZ]; exact Blk.new w _ _
  have cZ := kZ.cell 0
  simp only [List.getElem?_cons_zero] at cZ
  have h1 := h.below (hZ ▸ hb1)
  have HAR := Lib.hid (j_areaOf h1 hb.sec fr to hlt hto)
  have HTX := Lib.hid (fun (wx : World) (hx : DkW wx base D S M k E V q d) => j_text hx hb hon fr to (Nat.le_of_lt hlt) hto A hA)
  have HBE := Lib.hid (fun (wx wy : World) (hx : DkW wx base D S M k E V q d) (hb : Below wx.heap.size wx wy) => hx.turn hb)
  rw [hF] at HTX HBE ⊢
  have H1 := Lib.hid h1
  have T1 := Lib.hid (h.turn (hZ ▸ hb1)).2
  rw [hF] at T1
  rw [hF] at hfl
  have HFL := Lib.hid hfl
  have HW := Lib.hid hw
  have HZ := Lib.hid hZ
  have KZ := Lib.hid kZ
  have HSC := Lib.hid hscan
  have HAZ := Lib.hid hAz
  have HLT := Lib.hid hlt
  have HBIG := Lib.hid hbig
  unfold ptD at HAR ⊢
  clear h hb hon hs hA hAs hAz hscan hfl hw hto hF hb1 kZ h1 hlt hbig
  refine (callsIn_wide (n := 9)).1 (callsIn_of_wp_marks Try.func8 rfl trivial ?_ rfl)
  simp only [Try.ntmps8, List.size_toArray, List.length_cons, List.length_nil, Nat.reduceAdd, Nat.reduceSub, Array.replicate_succ, Array.replicate_zero, List.push_toArray, List.append_toArray, List.nil_append, List.cons_append]
  refine wpIn_wide.2 ?_
  rw [hZ]
  go_wp2_with fail
  (with_reducible refine HAR.out.mono ?_)
  rintro e w2 ⟨rfl, hb2⟩
  clear HAR
  obtain ⟨h2, t2⟩ := HBE.out w1 w2 H1.out hb2
  have kZ2 := KZ.out.below hb2 KZ.out.lt
  obtain ⟨w3, hw3⟩ : ∃ w3, (w2.alloc (.cells #[.pointer none, .int .i64 0, .int .i64 0] 49)).setRow w2.heap.size (arV D fr to).toArray = w3 := ⟨_, rfl⟩
  have k1 : Blk (w2.alloc (.cells #[.pointer none, .int .i64 0, .int .i64 0] 49)) w2.heap.size 49 [.pointer none, .int .i64 0, .int .i64 0] := Blk.new w2 _ _
  have k2 : Blk w3 w2.heap.size 49 (arV D fr to) := by rw [← hw3]; exact k1.row (arV D fr to) rfl
  have kb : Below w2.heap.size w2 w3 := by rw [← hw3]; exact below_setRow ((Below.refl w2.heap.size w2).alloc (Nat.le_refl _) _) (Nat.le_refl _) _
  obtain ⟨h3, t3⟩ := HBE.out w2 w3 h2 kb
  have kZ3 := kZ2.below kb kZ2.lt
  have T3 := Lib.hid (T1.out.trans (t2.trans t3))
  have K1 := Lib.hid k1
  have K2 := Lib.hid k2
  have KZ3 := Lib.hid kZ3
  have HT := Lib.hid (HTX.out w3 h3)
  have hA2 : Z ≤ w2.heap.size := by have := hb2.size; have := KZ.out.lt; omega
  have HA2 := Lib.hid hA2
  obtain ⟨AB, hAB⟩ : ∃ AB, w2.heap.size = AB := ⟨_, rfl⟩
  rw [hAB] at K1 K2 HA2
  rw [hAB] at hw3
  clear hb2 h2 t2 kZ2 kb h3 t3 kZ3 k1 k2 hA2 cZ HTX KZ H1 T1
  go_wp2_with (first | (refine wpList_store_blk rfl 49 _ _ rfl AB (arV D fr to) (by first | rfl | rw [hAB]) rfl K1.out (by rw [size_ar]; rfl) rfl (by simp [Value.oneCell', arV, ptD]) ?_; rw [hw3]) | (refine wpList_load_blk rfl 49 _ rfl AB rfl K2.out Try.underlying49 rfl (by rw [size_ar]; rfl) ?_))
  (with_reducible refine HT.out.mono ?_)
  rintro e w4 ⟨rfl, h4, t4⟩
  have nZ : ¬ F Z := fun hf => by have := HFL.out Z hf; have := HZ.out; omega
  have nA : ¬ F AB := fun hf => by have := HFL.out AB hf; have := HZ.out; have := HA2.out; omega
  have kZ4 := t4.blk KZ3.out nZ
  have kA4 := t4.blk K2.out nA
  have T4 := Lib.hid (T3.out.trans t4)
  have H4 := Lib.hid h4
  have cZ := kZ4.cell 0
  simp only [List.getElem?_cons_zero] at cZ
  have KA4 := Lib.hid kA4
  have KZ4 := Lib.hid kZ4
  clear h4 t4 nZ nA kZ4 kA4 HT K1 K2 KZ3 T3 hw3 hAB
  obtain ⟨Y, hY⟩ : ∃ Y, w4.heap.size = Y := ⟨_, rfl⟩
  have kb : ∀ i2, (Instr.build 55 #[(0, .agg (arV D fr to).toArray), (1, .int .i64 i2)]).run Try.prog w4 = .ok (.agg #[ptD D, .int .i64 (fr : Int), .int .i64 (to : Int), .int .i64 i2]) w4 := fun i2 => by
    unfold arV ptD
    kernel_rfl
  go_wp2_with (first | (refine wpList_load_blk rfl 49 _ rfl AB rfl KA4.out Try.underlying49 rfl (by rw [size_ar]; rfl) ?_) | (refine wpList_build_at rfl 55 _ rfl _ (by simp only [List.map_toArray, List.map_cons, List.map_nil]; exact kb _) ?_) | (go_at_call 20; (with_reducible refine (j_frames _ _).mono ?_); rintro e w9 ⟨rfl, rfl⟩))
  have K0 := ((((Blk.new' w4 55 (c := #[ptD D, .int .i64 (fr : Int), .int .i64 (to : Int), .int .i64 (fr : Int)]) (juV D ⟨fr, to, fr⟩) rfl).alloc (.cells #[.pointer (some ⟨Y, 0, none⟩)] 28)).alloc (.cells #[.slice none 0 0] 22)).alloc (.cells #[.string A] 9))
  have K1 := ((Blk.newAt (w4.alloc (.cells #[ptD D, .int .i64 (fr : Int), .int .i64 (to : Int), .int .i64 (fr : Int)] 55)) (Y + 1) (by simp [hY]) 28 (c := #[.pointer (some ⟨Y, 0, none⟩)]) [.pointer (some ⟨Y, 0, none⟩)] rfl).alloc (.cells #[.slice none 0 0] 22)).alloc (.cells #[.string A] 9)
  have K2 := (Blk.newAt ((w4.alloc (.cells #[ptD D, .int .i64 (fr : Int), .int .i64 (to : Int), .int .i64 (fr : Int)] 55)).alloc (.cells #[.pointer (some ⟨Y, 0, none⟩)] 28)) (Y + 1 + 1) (by simp [hY]) 22 (c := #[.slice none 0 0]) [.slice none 0 0] rfl).alloc (.cells #[.string A] 9)
  have K3 := Blk.newAt (((w4.alloc (.cells #[ptD D, .int .i64 (fr : Int), .int .i64 (to : Int), .int .i64 (fr : Int)] 55)).alloc (.cells #[.pointer (some ⟨Y, 0, none⟩)] 28)).alloc (.cells #[.slice none 0 0] 22)) (Y + 1 + 1 + 1) (by simp [hY]) 9 (c := #[.string A]) [.string A] rfl
  have Kb := ((((Below.refl w4.heap.size w4).alloc (Nat.le_refl _) (.cells #[ptD D, .int .i64 (fr : Int), .int .i64 (to : Int), .int .i64 (fr : Int)] 55)).alloc (by simp) (.cells #[.pointer (some ⟨Y, 0, none⟩)] 28)).alloc (by simp; omega) (.cells #[.slice none 0 0] 22)).alloc (by simp; omega) (.cells #[.string A] 9)
  have Kz := (((KZ4.out.alloc (.cells #[ptD D, .int .i64 (fr : Int), .int .i64 (to : Int), .int .i64 (fr : Int)] 55)).alloc (.cells #[.pointer (some ⟨Y, 0, none⟩)] 28)).alloc (.cells #[.slice none 0 0] 22)).alloc (.cells #[.string A] 9)
  have Kn : ((((w4.alloc (.cells #[ptD D, .int .i64 (fr : Int), .int .i64 (to : Int), .int .i64 (fr : Int)] 55)).alloc (.cells #[.pointer (some ⟨Y, 0, none⟩)] 28)).alloc (.cells #[.slice none 0 0] 22)).alloc (.cells #[.string A] 9)).heap.size = Y + 4 := by simp [hY]
  have KzL := KZ4.out.lt
  clear cZ kb
  generalize World.alloc (World.alloc (World.alloc (World.alloc w4 _) _) _) _ = w5 at *
  rw [hY] at K0 KzL
  have HY := Lib.hid hY
  rw [hY] at Kb
  clear hY
  obtain ⟨m, hm⟩ : ∃ m, to - fr = m := ⟨_, rfl⟩
  have hAm : A.size = 32 * m := by rw [HAZ.out, hm]
  have hm1 : m ≤ 1000 := by have := HBIG.out; omega
  have hKb : ∀ (W : World) (l : Nat) (o o' : Obj), w5.heap.size ≤ l → W.heap[l]? = some o → o.isCells = false → o.isWalk = false → ∀ o2, W.heap[Y + 1 + 1 + 1]? = some o2 → (W.putObj l o').heap[Y + 1 + 1 + 1]? = some o2 := fun W l o o' hl _ _ _ o2 ho2 =>
    (World.putObj_heap_other (by omega)).trans ho2
  have hYw : w4.heap.size = Y := HY.out
  refine (wpIn_wide (n := 9)).1 ?_
  refine wpIn_rangeFunc_ownF (F := Fence.wide) (n := 9) rfl (by omega) (gf := 36) (lb := #[.pointer (some ⟨Y + 1 + 1 + 1, 0, none⟩)]) rfl trivial (enters_of Try.func36 (by kernel_rfl) rfl)
    (j_fstops 8 (Y + 1 + 1 + 1) A m hAm hm1 (by omega) w5 K3) (fun h k o ho => k o (h o ho)) hKb (Below.refl _ _) (fun _ => rfl)
    (fun pre W => (Blk W Z 3 [.int .i64 (fr : Int)] ∧ Blk W Y 55 (juV D ⟨fr, to, fr + lastJ 0 (pre.map (·.val))⟩) ∧ Blk W (Y + 1) 28 [.pointer (some ⟨Y, 0, none⟩)] ∧ Blk W (Y + 1 + 1 + 1) 9 [.string A] ∧ ∃ v, Blk W (Y + 1 + 1) 22 [v] ∧ OwnR W (Y + 4) 9 1 v (rowsS (pre.map (·.val.1)))) ∧ Below Y w4 W)
    (fun _ _ _ => False)
    (OwnFrom.and (Own.from (fun s A B row hs hg hr => ⟨hs.1.kept hg hr, hs.2.1.kept hg hr, hs.2.2.1.kept hg hr, hs.2.2.2.1.kept hg hr, hs.2.2.2.2.elim fun v h => ⟨v, h.1.kept hg hr, h.2.kept hg hr⟩⟩) _) (ownFrom_below (by omega) (by omega)))
    (fun _ _ _ _ _ hs _ _ => hs)
    ⟨⟨Kz, K0, K1, K3, _, K2, OwnR.nil _ _ _ _⟩, Kb⟩
    (fun x => { tmps := #[.pointer (some ⟨D, 0, none⟩), .int .i64 (fr : Int), .int .i64 (to : Int), undef, .pointer (some ⟨Z, 0, none⟩), undef, .pointer none, .slice none 0 0, .int .i64 0, .pointer (some ⟨AB, 0, none⟩), .int .i64 0, .string A, .pointer (some ⟨Y + 1, 0, none⟩), .pointer (some ⟨Y + 1 + 1, 0, none⟩), .string (tx x.val.1), .int .i64 (x.val.2 : Int), .tuple #[.agg (arV D fr to).toArray, .int .i64 0], .pointer (some ⟨D, 0, none⟩), .int .i64 (fr : Int), .int .i64 (to : Int), .tuple #[.agg (arV D fr to).toArray, .int .i64 0], .agg (arV D fr to).toArray, .int .i64 0, .int .i64 0, .bool false, undef, .tuple #[.string A, .int .i64 0], .agg (arV D fr to).toArray, .tuple #[.string A, .int .i64 0], .string A, .int .i64 0, .int .i64 0, .bool false, undef, .agg (arV D fr to).toArray, .int .i64 (fr : Int), .agg #[ptD D, .int .i64 (fr : Int), .int .i64 (to : Int), .int .i64 (fr : Int)], .pointer (some ⟨Y, 0, none⟩), .string A, .func (.func 36) #[] #[.pointer (some ⟨Y + 1 + 1 + 1, 0, none⟩)], .string (tx x.val.1), .int .i64 (x.val.2 : Int), undef, undef, undef, undef, undef, undef, undef, undef, undef, undef, undef, undef], defers := [] }) ?assign ?body ?done ?stop
  case assign =>
    intro lp x W K hK
    gi_wp2
    exact hK
  case body =>
    rintro lp pre ⟨⟨x, y⟩, hxy⟩ W ⟨⟨h1, h2, h3, h5, v, h6, h4⟩, hb⟩ hlt
    obtain ⟨i0, hi0, hz0, hz1, hz2⟩ := info_parts2 info_str
    obtain ⟨X, hX⟩ : ∃ X, tx x = X := ⟨_, rfl⟩
    have hys : y ≤ m := hxy
    have hll : (rowsS (pre.map (·.val.1))).length = pre.length := by rw [rowsS_len, List.length_map]
    have hla : lastJ 0 ((pre ++ [(⟨(x, y), hxy⟩ : {x : List Nat × Nat // x.2 ≤ m})]).map (·.val)) = y := by
      rw [List.map_append, List.map_singleton, lastJ_snoc]
    have hrs : rowsS ((pre ++ [(⟨(x, y), hxy⟩ : {x : List Nat × Nat // x.2 ≤ m})]).map (·.val.1)) = rowsS (pre.map (·.val.1)) ++ [[.string X]] := by
      rw [List.map_append, rowsS_app, ← hX]
      rfl
    obtain ⟨R, hR⟩ : ∃ R, rowsS (pre.map (·.val.1)) = R := ⟨_, rfl⟩
    rw [hR] at h4 hll hrs
    have hown : (W.alloc (.cells #[.string X] 9)).ownsRow (Y + 4) 9 1 v pre.length R.flatten := by
      have := (h4.alloc (.cells #[.string X] 9)).2
      rw [hll] at this
      exact this
    have hnew : ∀ jj u, [Value.string X][jj]? = some u → (W.alloc (.cells #[.string X] 9)).cell? ((⟨W.heap.size, 0, none⟩ : Addr).add jj) = some u := fun jj u h => by
      rw [Addr.add_mid]
      exact (Blk.new' W 9 [Value.string X] rfl).whole jj u h
    have hone : ∀ u ∈ [Value.string X], u.oneCell' = true := by simp [Value.oneCell']
    have h63 : pre.length + 1 ≤ maxLen := by simp [maxLen]; omega
    have hbyy : (pre.length + 1) * 16 ≤ 140737488355328 := by omega
    have hWz : Y + 4 ≤ W.heap.size := by
      have := h5.lt
      omega
    have hbase : Y + 4 ≤ (W.alloc (.cells #[.string X] 9)).heap.size := by simp; omega
    have hge : ∀ b, v.ownBlock = some b → Y + 4 ≤ b := fun b hb => (h4.lt b hb).1
    have aZ := h1.alloc (.cells #[.string X] 9)
    have aJ := h2.alloc (.cells #[.string X] 9)
    have aV := h3.alloc (.cells #[.string X] 9)
    have aG := h5.alloc (.cells #[.string X] 9)
    have aN := h6.alloc (.cells #[.string X] 9)
    have ab := hb.alloc (show Y ≤ W.heap.size by omega) (.cells #[.string X] 9)
    have hcells : ∀ (j : Nat) (o : Obj), v.ownBlock = some j → (W.alloc (.cells #[.string X] 9)).heap[j]? = some o → o.isCells = true := (h4.alloc _).isCells
    have h4k := h4.1
    have hZY : Z < Y := KzL
    obtain ⟨p, cap, rfl⟩ := h4.isSlice
    have hval : (fr : Int) + (y : Int) = ((fr + y : Nat) : Int) := by omega
    have key : ∀ v5 w5, w5.ownsRow (Y + 4) 9 1 v5 (pre.length + 1) (R.flatten ++ [.string X]) → (W.alloc (.cells #[.string X] 9)).grownBy w5 (Value.slice p R.length cap).ownBlock →
        (w5.cell? ⟨Y + 1 + 1, 0, none⟩ = some (.slice p R.length cap) ∧ w5.frozen? ⟨Y + 1 + 1, 0, none⟩ = false ∧ (w5.setCell ⟨Y + 1 + 1, 0, none⟩ v5).cell? ⟨Y + 1, 0, none⟩ = some (.pointer (some ⟨Y, 0, none⟩)) ∧ (w5.setCell ⟨Y + 1 + 1, 0, none⟩ v5).cell? ⟨Z, 0, none⟩ = some (.int .i64 (fr : Int)) ∧ (∃ n : Nat, (w5.setCell ⟨Y + 1 + 1, 0, none⟩ v5).cell? ⟨Y, 3, none⟩ = some (.int .i64 (n : Int))) ∧ (w5.setCell ⟨Y + 1 + 1, 0, none⟩ v5).frozen? ⟨Y, 3, none⟩ = false) ∧
        KeepsOthers W ((w5.setCell ⟨Y + 1 + 1, 0, none⟩ v5).setCell ⟨Y, 3, none⟩ (.int .i64 ((fr : Int) + (y : Int)))) ∧ (∀ o, W.heap[Y + 1 + 1 + 1]? = some o → ((w5.setCell ⟨Y + 1 + 1, 0, none⟩ v5).setCell ⟨Y, 3, none⟩ (.int .i64 ((fr : Int) + (y : Int)))).heap[Y + 1 + 1 + 1]? = some o) ∧
        ((Blk ((w5.setCell ⟨Y + 1 + 1, 0, none⟩ v5).setCell ⟨Y, 3, none⟩ (.int .i64 ((fr : Int) + (y : Int)))) Z 3 [.int .i64 (fr : Int)] ∧ Blk ((w5.setCell ⟨Y + 1 + 1, 0, none⟩ v5).setCell ⟨Y, 3, none⟩ (.int .i64 ((fr : Int) + (y : Int)))) Y 55 (juV D ⟨fr, to, fr + lastJ 0 ((pre ++ [(⟨(x, y), hxy⟩ : {x : List Nat × Nat // x.2 ≤ m})]).map (·.val))⟩) ∧ Blk ((w5.setCell ⟨Y + 1 + 1, 0, none⟩ v5).setCell ⟨Y, 3, none⟩ (.int .i64 ((fr : Int) + (y : Int)))) (Y + 1) 28 [.pointer (some ⟨Y, 0, none⟩)] ∧ Blk ((w5.setCell ⟨Y + 1 + 1, 0, none⟩ v5).setCell ⟨Y, 3, none⟩ (.int .i64 ((fr : Int) + (y : Int)))) (Y + 1 + 1 + 1) 9 [.string A] ∧
          ∃ v, Blk ((w5.setCell ⟨Y + 1 + 1, 0, none⟩ v5).setCell ⟨Y, 3, none⟩ (.int .i64 ((fr : Int) + (y : Int)))) (Y + 1 + 1) 22 [v] ∧ OwnR ((w5.setCell ⟨Y + 1 + 1, 0, none⟩ v5).setCell ⟨Y, 3, none⟩ (.int .i64 ((fr : Int) + (y : Int)))) (Y + 4) 9 1 v (rowsS ((pre ++ [(⟨(x, y), hxy⟩ : {x : List Nat × Nat // x.2 ≤ m})]).map (·.val.1)))) ∧ Below Y w4 ((w5.setCell ⟨Y + 1 + 1, 0, none⟩ v5).setCell ⟨Y, 3, none⟩ (.int .i64 ((fr : Int) + (y : Int))))) := by
      intro v5 w5 hown5 hg5
      have bZ := aZ.grownO hg5 (fun i hi => by have := hge i hi; omega)
      have bJ := aJ.grownO hg5 (fun i hi => by have := hge i hi; omega)
      have bV := aV.grownO hg5 (fun i hi => by have := hge i hi; omega)
      have bG := aG.grownO hg5 (fun i hi => by have := hge i hi; omega)
      have bN := aN.grownO hg5 (fun i hi => by have := hge i hi; omega)
      have bb := ab.grown hg5 (by simp; omega) (fun i hi => by have := hge i hi; omega)
      have o5 : OwnR w5 (Y + 4) 9 1 v5 (rowsS ((pre ++ [(⟨(x, y), hxy⟩ : {x : List Nat × Nat // x.2 ≤ m})]).map (·.val.1))) := by
        rw [hrs]
        refine ⟨fun r hr => ?_, ?_⟩
        · rcases List.mem_append.1 hr with hr | hr
          · exact h4k r hr
          · rw [List.mem_singleton.1 hr]; rfl
        · rw [List.length_append, hll, List.flatten_append]
          exact hown5
      have cZ := bZ.other (a := ⟨Y + 1 + 1, 0, none⟩) (show Y + 1 + 1 ≠ Z by omega) v5
      have cJ := bJ.other (a := ⟨Y + 1 + 1, 0, none⟩) (show Y + 1 + 1 ≠ Y by omega) v5
      have cV := bV.other (a := ⟨Y + 1 + 1, 0, none⟩) (show Y + 1 + 1 ≠ Y + 1 by omega) v5
      have cG := bG.other (a := ⟨Y + 1 + 1, 0, none⟩) (show Y + 1 + 1 ≠ Y + 1 + 1 + 1 by omega) v5
      have cN := bN.set 0 v5
      have co := o5.cellOther bN (by decide) 0 v5
      have cb := bb.setCell (p := ⟨Y + 1 + 1, 0, none⟩) (show Y ≤ Y + 1 + 1 by omega) v5
      refine ⟨⟨bN.cell 0, bN.free 0, cV.cell 0, cZ.cell 0, ⟨_, cJ.cell 3⟩, cJ.free 3⟩, (KeepsOthers.alloc W _).trans ((KeepsOthers.of_grownBy hg5 hcells).trans ((KeepsOthers.setCell w5 _ _).trans (KeepsOthers.setCell _ _ _))), fun o ho => ?_, ⟨cZ.other (a := ⟨Y, 3, none⟩) (show Y ≠ Z by omega) _, ?_, cV.other (a := ⟨Y, 3, none⟩) (show Y ≠ Y + 1 by omega) _, cG.other (a := ⟨Y, 3, none⟩) (show Y ≠ Y + 1 + 1 + 1 by omega) _, v5, cN.other (a := ⟨Y, 3, none⟩) (show Y ≠ Y + 1 + 1 by omega) _, co.cellOther cJ (by decide) 3 _⟩, cb.setCell (p := ⟨Y, 3, none⟩) (show Y ≤ Y by omega) _⟩
      · have e := h5
        unfold Blk at e
        rw [e] at ho
        cases ho
        exact cG.other (a := ⟨Y, 3, none⟩) (show Y ≠ Y + 1 + 1 + 1 by omega) _
      · rw [hla, hval]
        exact cJ.set 3 _
    have c1 := h6.cell 0
    simp only [List.getElem?_cons_zero] at c1
    have g1 : (fr : Int) ≤ 1000 := by have := HBIG.out; have := HLT.out; omega
    have g2 : (y : Int) ≤ 1000 := by omega
    have HKey := Lib.hid key
    have HRow := Lib.hid hown
    have HNew := Lib.hid hnew
    have HOne := Lib.hid hone
    have H63 := Lib.hid h63
    have HBY := Lib.hid hbyy
    have HBS := Lib.hid hbase
    clear key hown hnew hone h63 hbyy hbase aZ aJ aV aG aN ab hcells h4k h1 h2 h3 h4 h5 h6 hb hge hWz hrs hla hval hll K0 K1 K2 K3 Kb Kz hAm hm hm1 hys hYw Kn hKb
    dsimp only
    rw [hX]
    clear hX
    gi_wp2_with (gi_at_builtin; go_loud (refine wpListIn_append_own_at _ rfl _ _ 22 rfl (Y + 4) 9 i0 (.string ⟨#[]⟩) 1 16 Try.underlying22 hi0 hz0 hz1 hz2 rfl (by decide) _ pre.length _ rfl HRow.out ⟨W.heap.size, 0, none⟩ 1 1 [.string X] rfl rfl HNew.out HOne.out H63.out HBY.out HBS.out ?_; intro v5 w5 hown5 hg5 hnil5 hat5; obtain ⟨p5, cap5, rfl⟩ := own_slice hown5; obtain ⟨⟨q1, q2, q3, q4, ⟨n0, q5⟩, q6⟩, hfin⟩ := HKey.out _ w5 hown5 hg5; have HFin := Lib.hid hfin; clear hown5 hg5 hnil5 hat5 hfin))
    exact HFin.out
  case done =>
    rintro Dd ys W hD hys ⟨⟨h1, h2, h3, h5, v, h6, h4⟩, hb⟩ hK
    obtain ⟨e1, e2⟩ := HSC.out
    rw [← hys] at e1 e2
    rw [List.map_map] at e1
    rw [e2] at h2
    have h4' : OwnR W (Y + 4) 9 1 v (rowsS l) := by rw [← e1]; exact h4
    obtain ⟨p, cap, rfl⟩ := h4'.isSlice
    rw [rowsS_len] at h4' h6
    have c1 := h6.cell 0
    have c2 := h3.cell 0
    simp only [List.getElem?_cons_zero] at c1 c2
    have H2' := Lib.hid h2
    have H4' := Lib.hid h4'
    have HB' := Lib.hid hb
    have HK' := Lib.hid hK
    clear hys e1 e2 K0 K1 K2 K3 Kb Kz h1 h2 h3 h4 h5 h6 hAm hm hm1 hKb hb h4' hK
    go_wp2
    go_quiet (fail)
    go_wp2
    have hK := HK'.out
    refine ⟨by simp, .inl ⟨_, _, rfl, run_takeDeferred hK, ?_⟩⟩
    have o1 : OwnR (W.drewN nq) (Y + 4) 9 1 (.slice p l.length cap) (rowsS l) := H4'.out
    have o2 := o1.kept (grownBy_putObj' (W.drewN nq) Dd (.deferred none)) (fun r e => by cases e; exact ⟨_, hK, rfl⟩)
    have j1 : Blk (W.drewN nq) Y 55 (juV D ⟨fr, to, fr + u⟩) := H2'.out
    have j2 := j1.kept (grownBy_putObj' (W.drewN nq) Dd (.deferred none)) (fun r e => by cases e; exact ⟨_, hK, rfl⟩)
    have b1 : Below Y w4 (W.drewN nq) := below_drewN HB'.out nq
    have b2 := b1.trans (belowK_b (w := w4) (Nat.le_of_eq HY.out.symm) _ Dd _ (.deferred none) (by have := HY.out; omega) hK rfl rfl)
    have hYw := HY.out
    have hZw := HZ.out
    refine ⟨_, results_tmp3 rfl _ _ _, Y, p, cap, rfl, by omega, (HBE.out w4 _ H4.out (by rw [hYw]; exact b2)).1, T4.out.then (b2.mono (by omega)) HW.out (fun i hi => .inl hi), j2, o2.lower (by omega)⟩
  case stop =>
    rintro Dd c pre W _ _ h _
    exact h.elim
end Go.Proofs.Ytmonenbnjnjahaa
