/- Walks of what a journal writes: put, blank. -/
import Derived.Test.YtmonenbnjnjahaaYSe
import Derived.Test.YtmonenbnjnjahaaYPl
import Derived.Test.YtmonenbnjnjahaaZC
import Derived.Test.YtmonenbnjnjahaaZB
import Derived.Test.YtmonenbnjnjahaaG4
import Derived.RangeFuncNested
namespace Go.Proofs.Ytmonenbnjnjahaa
open Go.RowKit Go.Shelf
set_option linter.unusedVariables false

attribute [local go_sem] Oper.semAt_some

/-- a disk's own blocks are cells, all but its map -/
theorem DkW.cellsOr {w : World} {base D S M k : Nat} {E : DataW Unit} {V : Nat → Value} {q : Option (Nat × Int)} {d : DiskM} (h : DkW w base D S M k E V q d) {i : Nat} (hi : foot D S M V q i) : i = M ∨ ∀ o, w.heap[i]? = some o → o.isCells = true := by
  have hblk : ∀ {b : Nat} {t : TypeId} {vs : List Value}, Blk w b t vs → ∀ o, w.heap[b]? = some o → o.isCells = true := fun hb o ho => by
    unfold Blk at hb
    rw [hb] at ho
    cases ho
    rfl
  rcases hi with e | e | e | e | ⟨j, e⟩
  · exact .inr (e ▸ hblk h.blk)
  · exact .inr (e ▸ hblk h.sec)
  · exact .inl e
  · obtain ⟨⟨L, l⟩, e1, e2⟩ := Option.map_eq_some_iff.1 e
    obtain rfl : L = i := e2
    exact .inr (hblk (h.left _ _ e1).1)
  · refine .inr fun o ho => ?_
    rcases (h.own j).2.2 with ⟨hv, _⟩ | ⟨g, cap, cur, hv, hg, hh, r⟩
    · rw [hv] at e; cases e
    · rw [hv] at e
      cases e
      rw [hh] at ho
      cases ho
      rfl
/-- all that is known of a disk that is being written to -/
def DkA (base : Nat) (w : World) (W : World) (D S M : Nat) (F : Nat → Prop) (d : DiskM) : Prop :=
  ∃ k E V q, DkW W base D S M k E V q d ∧ Turn base w W F (foot D S M V q)
theorem DkA.kept {base : Nat} {w W W' : World} {D S M : Nat} {F : Nat → Prop} {d : DiskM} {B : Nat} {row : Option Nat} (h : DkA base w W D S M F d) (hw : base ≤ w.heap.size) (hM : M < B) (hB : w.heap.size ≤ B) (hg : W.grownBy W' row)
    (hr : ∀ r, row = some r → B ≤ r ∧ ∃ o : Obj, W.heap[r]? = some o ∧ o.isCells = false) : DkA base w W' D S M F d := by
  obtain ⟨k, E, V, q, h1, h2⟩ := h
  refine ⟨k, E, V, q, h1.keep fun i hi => hg.block i (h1.lt i hi).2 fun e => ?_, ⟨h2.b.grown hg (Nat.le_trans hw h2.b.size) (fun r e => by have := (hr r e).1; omega), fun i hi hn => (hg.block i (by have := h2.b.size; omega) (fun e => by have := (hr i e.symm).1; omega)).trans (h2.out i hi hn), h2.new⟩⟩
  obtain ⟨hb, o, ho, hc⟩ := hr i e.symm
  rcases h1.cellsOr hi with rfl | hx
  · omega
  · rw [hx o ho] at hc; cases hc
theorem KeepsFrom.of_turn {base B : Nat} {W W' : World} {D S M k : Nat} {E : DataW Unit} {V : Nat → Value} {q : Option (Nat × Int)} {d : DiskM} {F' : Nat → Prop} (h : DkW W base D S M k E V q d) (hM : M < B) (t : Turn base W W' (foot D S M V q) F') : KeepsFrom B W W' :=
  ⟨t.b.size, fun i o hi ho hc => by
    refine (t.out i (Array.getElem?_eq_some_iff.1 ho).1 fun hf => ?_).trans ho
    rcases h.cellsOr hf with rfl | hx
    · omega
    · rw [hx o ho] at hc; cases hc⟩
theorem DkA.below {base : Nat} {w W W' : World} {D S M : Nat} {F : Nat → Prop} {d : DiskM} (h : DkA base w W D S M F d) (hb : Below W.heap.size W W') (hw : base ≤ w.heap.size) : DkA base w W' D S M F d := by
  obtain ⟨k, E, V, q, h1, h2⟩ := h
  exact ⟨k, E, V, q, h1.below hb, h2.trans (Turn.of_below hb (Nat.le_trans hw h2.b.size))⟩
/-- a block of another type is none of a disk's, where power lasts -/
theorem DkW.notTy {w : World} {base D S M k : Nat} {E : DataW Unit} {V : Nat → Value} {q : Option (Nat × Int)} {d : DiskM} (h : DkW w base D S M k E V q d) (hcut : d.cut = false) {b : Nat} {ty : TypeId} {vs : List Value} (hb : Blk w b ty vs) (h1 : ty ≠ 47) (h2 : ty ≠ 69) : ¬ foot D S M V q b := by
  have hb' := hb
  unfold Blk at hb'
  rintro (rfl | rfl | rfl | e | ⟨j, e⟩)
  · have h3 := h.blk
    unfold Blk at h3
    rw [hb'] at h3
    cases h3
    exact h1 rfl
  · have h3 := h.sec
    unfold Blk at h3
    rw [hb'] at h3
    cases h3
    exact h2 rfl
  · obtain ⟨es, clock, hm, _⟩ := h.pen.map
    rw [hb'] at hm
    simp at hm
  · obtain ⟨⟨L, l⟩, e1, e2⟩ := Option.map_eq_some_iff.1 e
    have hp := h.pw
    rw [e1] at hp
    exact hp
  · exact (h.own j).ne hb h2 b e rfl
theorem results_cell1 {P : Program} {fn : Func} {p : Tmp} {ty : TypeId} (h : fn.results = #[.cell p ty]) (tmps : Array Value) (w : World) (g : Nat)
    (hp : tmps.getD p undef = .pointer (some ⟨g, 0, none⟩)) {x : Value} {d : TypeDesc} (hc : w.cell? ⟨g, 0, none⟩ = some x)
    (hu : P.underlying ty = some d) (hd : d.isRow = false) : (results fn tmps).run P w = .ok x w := by
  have hp' : tmps[p]?.getD undef = .pointer (some ⟨g, 0, none⟩) := by simpa using hp
  simp [results, h, hp', asAddr, run_loadVar_one w _ ty x d hc hu hd]
theorem cut_on {d : DiskM} (h : d.cut = false) : offD d = false := by unfold offD; rw [h]; rfl
set_option maxRecDepth 100000 in
set_option maxHeartbeats 2000000 in
theorem j_put {w : World} {base D S M k : Nat} {E : DataW Unit} {V : Nat → Value} {q : Option (Nat × Int)} {d : DiskM} {K : Nat} (h : DkW w base D S M k E V q d) (hd : DkN d K) (hK : K ≤ 60000) (hcut : d.cut = false) (fr te a n : Nat) (s : ByteArray) (hs : s.size ≤ 1100) (hn : (s.size + 31) / 32 = n) (han : a + n ≤ d.sec.length) (d' : DiskM) (hd' : putD d a n (sl s) = d') :
    Calls Try.prog 24 #[.agg (arV D fr te).toArray, .int .i64 (a : Int), .string s] w fun x w' => x = .returned (.int .i64 0) ∧ DkA base w w' D S M (foot D S M V q) d' := by
  have hw : base ≤ w.heap.size := by have := h.blk.lt; have := h.hD; omega
  have hMl : M < w.heap.size := (h.lt M (.inr (.inr (.inl rfl)))).2
  have hsec := hd.sec
  obtain ⟨p, hp⟩ : ∃ p, fillJ (sl s) n = p := ⟨_, rfl⟩
  have hpl : p.length = 32 * n := by rw [← hp]; exact fill_len (by rw [sl_len]; omega)
  have hpb : Bys p := by rw [← hp]; exact fill_bys (sl_bys s) n
  obtain ⟨F, hF⟩ : ∃ F, foot D S M V q = F := ⟨_, rfl⟩
  have hfl : ∀ i, F i → i < w.heap.size := fun i hi => by rw [← hF] at hi; exact (h.lt i hi).2
  obtain ⟨Z, hZ⟩ : ∃ Z, w.heap.size = Z := ⟨_, rfl⟩
  have A0 : DkA base w w D S M F d := ⟨k, E, V, q, h, hF ▸ Turn.refl base w _⟩
  have HA0 := Lib.hid A0
  have HW := Lib.hid hw
  have HM := Lib.hid hMl
  have HFL := Lib.hid hfl
  have HZ := Lib.hid hZ
  have HPL := Lib.hid hpl
  have HPB := Lib.hid hpb
  have HP := Lib.hid hp
  have HD := Lib.hid hd
  have HK := Lib.hid hK
  have HC := Lib.hid hcut
  have HAN := Lib.hid han
  have HN := Lib.hid hn
  have HS := Lib.hid hs
  have HD' := Lib.hid hd'
  rw [hF]
  have hZ1 : Blk (w.alloc (.cells (arV D fr te).toArray 49)) Z 49 (arV D fr te) := by rw [← hZ]; exact Blk.new w _ _
  clear h hd hK hcut hs hn han hd' hw hMl hsec hp hpl hpb hF hfl A0
  refine (callsIn_wide (n := 9)).1 (callsIn_of_wp_marks Try.func24 rfl trivial ?_ rfl)
  simp only [Try.ntmps24, List.size_toArray, List.length_cons, List.length_nil, Nat.reduceAdd, Nat.reduceSub, Array.replicate_succ, Array.replicate_zero, List.push_toArray, List.append_toArray, List.nil_append, List.cons_append]
  refine wpIn_wide.2 ?_
  go_wp2_with (go_at_call 40; (with_reducible refine (j_sectors _ _ _).mono ?_); rintro e w9 ⟨rfl, rfl⟩)
  have K0 := ((hZ1.alloc (.cells #[.int .i64 0] 29)).alloc (.cells #[.int .i64 (a : Int)] 3)).alloc (.cells #[.string s] 9)
  have K1 := ((Blk.newAt (w.alloc (.cells (arV D fr te).toArray 49)) (Z + 1) (by simp [hZ]) 29 (c := #[.int .i64 0]) [.int .i64 0] rfl).alloc (.cells #[.int .i64 (a : Int)] 3)).alloc (.cells #[.string s] 9)
  have K2 := (Blk.newAt ((w.alloc (.cells (arV D fr te).toArray 49)).alloc (.cells #[.int .i64 0] 29)) (Z + 1 + 1) (by simp [hZ]) 3 (c := #[.int .i64 (a : Int)]) [.int .i64 (a : Int)] rfl).alloc (.cells #[.string s] 9)
  have K3 := Blk.newAt (((w.alloc (.cells (arV D fr te).toArray 49)).alloc (.cells #[.int .i64 0] 29)).alloc (.cells #[.int .i64 (a : Int)] 3)) (Z + 1 + 1 + 1) (by simp [hZ]) 9 (c := #[.string s]) [.string s] rfl
  have Kb := ((((Below.refl w.heap.size w).alloc (Nat.le_refl _) (.cells (arV D fr te).toArray 49)).alloc (by simp) (.cells #[.int .i64 0] 29)).alloc (by simp; omega) (.cells #[.int .i64 (a : Int)] 3)).alloc (by simp; omega) (.cells #[.string s] 9)
  have Kn : ((((w.alloc (.cells (arV D fr te).toArray 49)).alloc (.cells #[.int .i64 0] 29)).alloc (.cells #[.int .i64 (a : Int)] 3)).alloc (.cells #[.string s] 9)).heap.size = Z + 4 := by simp [hZ]
  clear hZ1
  generalize World.alloc (World.alloc (World.alloc (World.alloc w _) _) _) _ = w5 at *
  have A5 := HA0.out.below Kb HW.out
  have hKb : ∀ (W : World) (l : Nat) (o o' : Obj), w5.heap.size ≤ l → W.heap[l]? = some o → o.isCells = false → o.isWalk = false → ∀ o2, W.heap[Z + 1 + 1]? = some o2 → (W.putObj l o').heap[Z + 1 + 1]? = some o2 := fun W l o o' hl _ _ _ o2 ho2 =>
    (World.putObj_heap_other (by omega)).trans ho2
  have hM5 : M < w5.heap.size := by have := HM.out; have := HZ.out; omega
  have hw5 : w.heap.size ≤ w5.heap.size := by have := HZ.out; omega
  have HKN := Lib.hid Kn
  have HM5 := Lib.hid hM5
  have HW5 := Lib.hid hw5
  refine (wpIn_wide (n := 9)).1 ?_
  refine wpIn_rangeFunc_ownG (F := Fence.wide) (n := 9) rfl (by omega) (gf := 53) (lb := #[.pointer (some ⟨Z + 1 + 1 + 1, 0, none⟩), .pointer (some ⟨Z + 1 + 1, 0, none⟩)]) rfl trivial (enters_of Try.func53 (by kernel_rfl) rfl)
    (j_sstops 8 (Z + 1 + 1 + 1) (Z + 1 + 1) a n s HN.out (by have := HS.out; omega) (by have := HAN.out; have := HD.out.sec; omega) (by omega) w5 K3 K2) (fun h k o ho => k o (h o ho)) hKb (Below.refl _ _) (fun _ => rfl)
    (fun pre W => DkA base w W D S M F (wrsJ d a p (pre.map (·.val))) ∧ Blk W Z 49 (arV D fr te) ∧ Blk W (Z + 1) 29 [.int .i64 0] ∧ Blk W (Z + 1 + 1) 3 [.int .i64 (a : Int)])
    (fun _ _ _ => False)
    (fun pre W W' row ⟨h1, h2, h3, h4⟩ hg hr => ⟨h1.kept HW.out HM5.out HW5.out hg hr, h2.kept hg (fun r e => (hr r e).2), h3.kept hg (fun r e => (hr r e).2), h4.kept hg (fun r e => (hr r e).2)⟩)
    (fun _ _ _ _ _ hs _ _ => hs)
    ⟨A5, K0, K1, K2⟩
    (fun x => { tmps := #[.agg (arV D fr te).toArray, .int .i64 (a : Int), .string s, .pointer (some ⟨Z, 0, none⟩), undef, undef, .pointer (some ⟨Z + 1, 0, none⟩), .int .i64 ((a + x.val : Nat) : Int), .string (tx (pcJ (fillJ (sl s) n) x.val)), undef, .int .i64 (a : Int), .string s, .func (.func 53) #[] #[.pointer (some ⟨Z + 1 + 1 + 1, 0, none⟩), .pointer (some ⟨Z + 1 + 1, 0, none⟩)], .int .i64 ((a + x.val : Nat) : Int), .string (tx (pcJ (fillJ (sl s) n) x.val)), undef, undef, undef, undef, undef, undef, undef, undef, undef, undef, undef], defers := [] }) ?assign ?body ?done ?stop
  case assign =>
    intro lp x W K hK
    gi_wp2
    exact hK
  case body =>
    rintro lp pre ⟨i, hi⟩ W ⟨⟨k', E', V', q', hx, ht⟩, h1, h2, h3⟩ hlt
    have hsec := (wrsJ_sec a p (pre.map (·.val)) d).1
    have hcut : (wrsJ d a p (pre.map (·.val))).cut = false := by rw [(wrsJ_sec a p (pre.map (·.val)) d).2]; exact HC.out
    have hdn := dkn_wrs HPL.out HPB.out (pre.map (·.val)) HD.out HAN.out (fun j hj => by obtain ⟨⟨x, hx⟩, _, rfl⟩ := List.mem_map.1 hj; exact hx)
    rw [List.length_map] at hdn
    have hn36 : n ≤ 36 := by have := HN.out; have := HS.out; omega
    have hdb := hdn.b (by have := HK.out; omega)
    have hlt2 : a + i < (wrsJ d a p (pre.map (·.val))).sec.length := by rw [hsec]; have := HAN.out; omega
    have hpl := pc_len HPL.out hi
    have hpb := pc_bys HPB.out i
    have hsx := sl_tx hpb
    have hzx : (tx (pcJ p i)).size = 32 := by rw [tx_size, hpl]
    obtain ⟨e1, e2⟩ := wr_on hlt2 hpl (cut_on hcut)
    rw [← wrsJ_snoc] at e2
    have hsn : (pre ++ [(⟨i, hi⟩ : {i : Nat // i < n})]).map (·.val) = pre.map (·.val) ++ [i] := by simp
    have HWR := Lib.hid (d_Write hx hdb ((a + i : Nat) : Int) (wf_small (a + i) (by have := hdb.sec; omega)) (tx (pcJ p i)) 0 (wrsJ d a p (pre.map (·.val) ++ [i])) (by rw [← e1, hpl, hzx]) (by rw [hsx, e2]))
    have HX := Lib.hid hx
    have HT := Lib.hid ht
    have HSN := Lib.hid hsn
    have H1 := Lib.hid h1
    have H2 := Lib.hid h2
    have H3 := Lib.hid h3
    have HCU := Lib.hid hcut
    have c0 := h1.cell 0
    unfold arV ptD at c0
    simp only [List.getElem?_cons_zero] at c0
    unfold ptD at HWR
    clear hx ht h1 h2 h3 hlt hsec hcut hdn hn36 hdb hlt2 hpl hpb hsx hzx e1 e2 hsn K0 K1 K2 K3 Kb Kn A5 hKb hM5 hw5 hZ
    dsimp only
    rw [HP.out]
    generalize tx (pcJ p i) = X at *
    generalize ((a + i : Nat) : Int) = ai at *
    gi_wp2_with fail
    refine ⟨trivial, ?_⟩
    change CallsIn Fence.wide _ _ _ _ _ _
    refine callsIn_wide.2 (HWR.out.mono ?_)
    rintro e w6 ⟨rfl, k6, E6, V6, q6, h6, t6⟩
    have hk := KeepsFrom.of_turn HX.out HM5.out t6
    have r1 := t6.blk H1.out (HX.out.notTy HCU.out H1.out (by decide) (by decide))
    have r2 := t6.blk H2.out (HX.out.notTy HCU.out H2.out (by decide) (by decide))
    have r3 := t6.blk H3.out (HX.out.notTy HCU.out H3.out (by decide) (by decide))
    have hfin : KeepsFrom w5.heap.size W w6 ∧ (∀ o, W.heap[Z + 1 + 1]? = some o → w6.heap[Z + 1 + 1]? = some o) ∧ DkA base w w6 D S M F (wrsJ d a p ((pre ++ [(⟨i, hi⟩ : {i : Nat // i < n})]).map (·.val))) ∧ Blk w6 Z 49 (arV D fr te) ∧ Blk w6 (Z + 1) 29 [.int .i64 0] ∧ Blk w6 (Z + 1 + 1) 3 [.int .i64 (a : Int)] := by
      refine ⟨hk, fun o ho => ?_, ?_, r1, r2, r3⟩
      · have e := H3.out
        unfold Blk at e
        rw [e] at ho
        cases ho
        exact r3
      · rw [HSN.out]
        exact ⟨k6, E6, V6, q6, h6, HT.out.trans t6⟩
    have HFin := Lib.hid hfin
    clear hk r1 r2 r3 hfin h6 t6
    gi_wp2
    exact HFin.out
  case done =>
    rintro Dd ys W hD hys ⟨⟨k', E', V', q', hx, ht⟩, h1, h2, h3⟩ hK
    rw [hys, wrsJ_all] at hx
    have hsec : (writesD d a (chunksK n p)).sec = d.sec := writes_sec _ _ _
    have hcut : (writesD d a (chunksK n p)).cut = false := by rw [writes_cut]; exact HC.out
    have hdn := dkn_wrs HPL.out HPB.out (List.range n) HD.out HAN.out (fun j hj => List.mem_range.1 hj)
    rw [wrsJ_all, List.length_range] at hdn
    have hn36 : n ≤ 36 := by have := HN.out; have := HS.out; omega
    have hdb := hdn.b (by have := HK.out; omega)
    obtain ⟨e1, e2⟩ := sy_on (cut_on hcut)
    have hd' := HD'.out
    unfold putD at hd'
    rw [HP.out] at hd'
    have HSY := Lib.hid (d_Sync hx hdb 0 d' e1 (e2.trans hd'))
    have HX := Lib.hid hx
    have HT := Lib.hid ht
    have H1 := Lib.hid h1
    have H2 := Lib.hid h2
    have HCU := Lib.hid hcut
    have HKK := Lib.hid hK
    have HDD := Lib.hid hD
    have c0 := h1.cell 0
    unfold arV ptD at c0
    simp only [List.getElem?_cons_zero] at c0
    unfold ptD at HSY
    clear hx ht h1 h2 h3 hK hys hsec hcut hdn hn36 hdb e1 e2 hd' K0 K1 K2 K3 Kb Kn A5 hKb hM5 hw5 hZ hD
    go_wp2_with fail
    refine HSY.out.mono ?_
    rintro e w6 ⟨rfl, k6, E6, V6, q6, h6, t6⟩
    have r2 := t6.blk H2.out (HX.out.notTy HCU.out H2.out (by decide) (by decide))
    have cE := r2.cell 0
    have fE := r2.free 0
    simp only [List.getElem?_cons_zero] at cE
    have hKd : w6.heap[Dd]? = some (.deferred (some [])) := by
      refine (t6.out Dd (Array.getElem?_eq_some_iff.1 HKK.out).1 fun hf => ?_).trans HKK.out
      rcases HX.out.cellsOr hf with rfl | hx
      · have := HM5.out; have := HDD.out; omega
      · have := hx _ HKK.out; cases this
    have hcut' : d'.cut = false := by
      rw [← HD'.out]
      unfold putD syncD
      show (writesD _ _ _).cut = false
      rw [writes_cut]
      exact HC.out
    have nE := h6.notTy hcut' r2 (by decide) (by decide)
    have A6 : DkA base w (w6.setCell ⟨Z + 1, 0, none⟩ (.int .i64 0)) D S M F d' := by
      refine ⟨k6, E6, V6, q6, h6.keep fun i hi => Below.heap_setCell _ _ _ i (fun e => nE (by have e' : i = Z + 1 := e; rw [← e']; exact hi)), ?_⟩
      exact (HT.out.trans t6).then ((Below.refl w.heap.size w6).setCell (p := ⟨Z + 1, 0, none⟩) (by have := HZ.out; show w.heap.size ≤ Z + 1; omega) _) HW.out (fun i hi => .inl hi)
    have rE := r2.set 0 (.int .i64 0)
    have hDd : Dd ≠ Z + 1 := by have := HDD.out; have := HKN.out; omega
    have hKd2 : (w6.setCell ⟨Z + 1, 0, none⟩ (.int .i64 0)).heap[Dd]? = some (.deferred (some [])) := (Below.heap_setCell _ _ _ Dd hDd).trans hKd
    have HA6 := Lib.hid A6
    have HRE := Lib.hid rE
    have HK2 := Lib.hid hKd2
    clear r2 hKd hcut' nE A6 rE hDd hKd2 h6 t6
    go_wp2
    have hK := HK2.out
    refine ⟨by simp, .inl ⟨_, _, rfl, run_takeDeferred hK, ?_⟩⟩
    have hg := grownBy_putObj' (w6.setCell ⟨Z + 1, 0, none⟩ (.int .i64 0)) Dd (.deferred none)
    have rF := HRE.out.kept hg (fun r e => by cases e; exact ⟨_, hK, rfl⟩)
    exact ⟨_, results_cell1 rfl _ _ (Z + 1) rfl (rF.cell 0) Try.underlying29 rfl, rfl, HA6.out.kept HW.out HM5.out HW5.out hg (fun r e => by cases e; exact ⟨HDD.out, _, hK, rfl⟩)⟩
  case stop =>
    rintro Dd c pre W _ _ h _
    exact h.elim
end Go.Proofs.Ytmonenbnjnjahaa
