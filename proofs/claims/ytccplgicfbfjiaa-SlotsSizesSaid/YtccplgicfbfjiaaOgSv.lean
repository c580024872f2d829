/- Walk of a pair's save. -/
import Derived.Test.YtccplgicfbfjiaaOgFi
import Derived.RangeFuncWrites
namespace Go.Proofs.Ytccplgicfbfjiaa
open Go.RowKit Go.Shelf
set_option linter.unusedVariables false

attribute [local go_sem] Oper.semAt_some

theorem OwnM.same {w w' : World} {base : Nat} {e : TypeId} {v : Value} {l : List Int} (h : OwnM w base e v l) (hs : ∀ b, v.ownBlock = some b → w'.heap[b]? = w.heap[b]?) : OwnM w' base e v l := by
  rcases h with h | ⟨g, cap, cur, fz, hv, hg, hh, r⟩
  · exact .inl h
  · exact .inr ⟨g, cap, cur, fz, hv, hg, (hs g (by rw [hv]; rfl)).trans hh, r⟩
/-- the bytes of a chunk -/
theorem chunk_range {w : World} {base : Nat} {e : TypeId} {g n cap : Nat} {F : ByteArray} (h : OwnM w base e (.slice (some ⟨g, 0, none⟩) n cap) (is F)) (i : Nat) : w.rangeAt g (32 * i) (ints .u8 (nn (pcJ (sl F) i))) := by
  intro j v hv
  have hr := h.range
  rw [is_sl] at hr
  have hj : j < (pcJ (sl F) i).length := by
    rcases Nat.lt_or_ge j (pcJ (sl F) i).length with h' | h'
    · exact h'
    · rw [List.getElem?_eq_none (by rw [ints_length, nn_length]; exact h')] at hv; cases hv
  have := hr (32 * i + j) v (by
    rw [← hv]
    unfold pcJ nn ints
    rw [List.getElem?_map, List.getElem?_map, List.getElem?_map, List.getElem?_map, List.getElem?_take]
    unfold pcJ at hj
    rw [List.length_take, List.length_drop] at hj
    rw [if_pos (by omega), List.getElem?_drop])
  rwa [Nat.zero_add] at this
section
variable {P : Program} {ops : Array Oper} {rest : List Oper} {o : Oper} {a : Act} {w : World} {Q : Exit → Act → World → Prop} {F : Fence} {n : Nat}
theorem wpListIn_string_mid (hgd : o.guard = none) (src dst e : TypeId) (x : Operand) (ho : o.op = .convert src dst x) (b off n' cap : Nat) (l : List Int)
    (hx : a.eval x = .slice (some ⟨b, off, none⟩) n' cap) (hs : P.underlying src = some (.slice e)) (he : P.underlying e = some (.int .u8)) (hd : P.underlying dst = some .string)
    (hc : w.rangeAt b off (ints .u8 l)) (hn : n' = l.length) (h : wpListIn F n P ops Q rest (a.put o.dst (.string (bs l))) w) : wpListIn F n P ops Q (o :: rest) a w := by
  refine wpListIn_plain hgd (fun _ hK => ?_)
  unfold Oper.wpIn
  refine ⟨by simp [Oper.about, ho], ?_⟩
  rw [Oper.semAt_eq _ _ _ (by rw [ho]; intro c hc'; cases hc')]
  unfold execOp
  simp only [ho, hx, Sem.run_bind, run_bytes_mid (P := P) (w := w) src dst e b off n' cap l hs he hd hc hn, Result.andThen_ok, Sem.run_pure]
  exact hK _ _ h
end
/-- all that is known of a disk while a call of the slots' writes to it: blocks from lo to hi are none of its own -/
def DkL (base : Nat) (w : World) (W : World) (D S M : Nat) (F : Nat → Prop) (lo hi : Nat) (d : DiskM) : Prop :=
  hi ≤ W.heap.size ∧ ∃ k E V q, DkW W base D S M k E V q d ∧ Turn base w W F (foot D S M V q) ∧ ∀ b, lo ≤ b → b < hi → ¬ foot D S M V q b
theorem DkL.kept {base : Nat} {w W W' : World} {D S M : Nat} {F : Nat → Prop} {lo hi : Nat} {d : DiskM} {B : Nat} {row : Option Nat} (h : DkL base w W D S M F lo hi d) (hw : base ≤ w.heap.size) (hM : M < B) (hB : w.heap.size ≤ B) (hg : W.grownBy W' row)
    (hr : ∀ r, row = some r → B ≤ r ∧ ∃ o : Obj, W.heap[r]? = some o ∧ o.isCells = false) : DkL base w W' D S M F lo hi d := by
  obtain ⟨hz, k, E, V, q, h1, h2, h3⟩ := h
  refine ⟨Nat.le_trans hz hg.size, k, E, V, q, h1.keep fun i hi => hg.block i (h1.lt i hi).2 fun e => ?_, ⟨h2.b.grown hg (Nat.le_trans hw h2.b.size) (fun r e => by have := (hr r e).1; omega), fun i hi hn => (hg.block i (by have := h2.b.size; omega) (fun e => by have := (hr i e.symm).1; omega)).trans (h2.out i hi hn), h2.new⟩, h3⟩
  obtain ⟨hb, o, ho, hc⟩ := hr i e.symm
  rcases h1.cellsOr hi with rfl | hx
  · omega
  · rw [hx o ho] at hc; cases hc
/-- a step of the disk's, then a store into a block that is none of its own -/
theorem DkL.step {base : Nat} {w W W' : World} {D S M : Nat} {F G : Nat → Prop} {lo hi : Nat} {d : DiskM} (hw : base ≤ w.heap.size) (hlo : w.heap.size ≤ lo) (hz : hi ≤ W.heap.size) (ht : Turn base w W F G) (hn : ∀ b, lo ≤ b → b < hi → ¬ G b) {k : Nat} {E : DataW Unit} {V : Nat → Value} {q : Option (Nat × Int)} (h : DkW W' base D S M k E V q d) (t : Turn base W W' G (foot D S M V q)) (b : Nat) (h1 : lo ≤ b) (h2 : b < hi) (v : Value) :
    DkL base w (W'.setCell ⟨b, 0, none⟩ v) D S M F lo hi d := by
  have nf : ∀ b, lo ≤ b → b < hi → ¬ foot D S M V q b := fun b h1 h2 hf => by
    rcases t.new b hf with hf | hf
    · exact hn b h1 h2 hf
    · omega
  have hb : Below lo W' (W'.setCell ⟨b, 0, none⟩ v) := (Below.refl lo W').setCell (p := ⟨b, 0, none⟩) h1 v
  exact ⟨Nat.le_trans hz (Nat.le_trans t.b.size hb.size), k, E, V, q, h.keep fun i hi => Below.heap_setCell _ _ _ i (fun e => nf b h1 h2 (by have e' : i = b := e; rw [← e']; exact hi)), (ht.trans t).then (hb.mono hlo) hw (fun i hi => .inl hi), nf⟩
set_option maxRecDepth 100000 in
set_option maxHeartbeats 2000000 in
theorem g_save {w : World} {base D S M kk : Nat} {E : DataW Unit} {V : Nat → Value} {q : Option (Nat × Int)} {d : DiskM} {K : Nat} (h : DkW w base D S M kk E V q d) (hd : DkN d K) (hK : K ≤ 60000) (fr k : Nat) (hm : mayS d fr k) (n : Nat) (hn : n < 18446744073709551616) (s : ByteArray) (hs : s.size ≤ slSize k) (a : Nat) (ha : (if n % 2 = 1 then fr + k else fr) = a) (e : Nat) (d' : DiskM) (he : svF d a (chunksK (secK (8 + s.size)) (padK (slotL n (sl s)))) = (e, d')) :
    Calls Try.prog 19 #[.agg (prV D fr k).toArray, .int .u64 (n : Int), .string s] w fun x w' => x = .returned (.int .i64 (e : Int)) ∧ DkA base w w' D S M (foot D S M V q) d' := by
  have hw : base ≤ w.heap.size := by have := h.blk.lt; have := h.hD; omega
  have hfl : ∀ i, foot D S M V q i → i < w.heap.size := fun i hi => (h.lt i hi).2
  have hsec := hd.sec
  obtain ⟨hm1, hm2, hm3, hm4⟩ := hm
  have hk1 : 1 ≤ k := by omega
  have hk : k ≤ 100 := by omega
  have hs2 := size_le hs hk1
  -- the frame, filled up
  obtain ⟨X, hX⟩ : ∃ X, tx (bigL n 8) = X := ⟨_, rfl⟩
  have hXz : X.size = 8 := by rw [← hX, tx_size, big_len]
  obtain ⟨L, hL⟩ : ∃ L, X ++ s = L := ⟨_, rfl⟩
  have hLz : L.size = 8 + s.size := by rw [← hL, ByteArray.size_append, hXz]
  have hadd := fun w' => run_string_add_sum (P := Try.prog) w' X s (by rw [hXz]; have := hs2.2; omega)
  rw [hL] at hadd
  have hLs : sl L = slotL n (sl s) := by
    rw [← hL, ← hX]
    unfold slotL
    conv => lhs; rw [← tx_sl s, ← tx_app]
    rw [sl_tx ((big_bys _ _).app (sl_bys s))]
  obtain ⟨f, hf⟩ : ∃ f, tx (frameK (sl L)) = f := ⟨_, rfl⟩
  have hfz : f.size = 6 + L.size := by rw [← hf, tx_size, frame_len, sl_len]
  obtain ⟨m, hmm⟩ : ∃ m, secK (8 + s.size) = m := ⟨_, rfl⟩
  have hm2 : (f.size + 31) / 32 = m := by rw [← hmm, hfz, hLz]; unfold secK; omega
  have hmk : m ≤ k := by rw [← hmm]; exact hs2.1
  have hm34 : m ≤ 33 := by rw [← hmm]; have := hs2.2; unfold secK; omega
  obtain ⟨p, hp⟩ : ∃ p, padK (slotL n (sl s)) = p := ⟨_, rfl⟩
  have hpl : p.length = 32 * m := by rw [← hp, pad_len, slotL_len, sl_len, hmm]
  have hpb : Bys p := by rw [← hp]; exact pad_bys (slotL_bys _ (sl_bys s))
  obtain ⟨G, hG⟩ : ∃ G, tx p = G := ⟨_, rfl⟩
  have hGs : sl G = p := by rw [← hG, sl_tx hpb]
  have hGz : G.size = 32 * m := by rw [← sl_len, hGs, hpl]
  have hfill : tx (fillJ (sl f) m) = G := by
    rw [← hf, sl_tx (frame_bys (sl_bys L)), hLs, ← hmm, ← hG, ← hp]
    congr 1
    have := pad_fill (slotL n (sl s))
    rwa [slotL_len, sl_len] at this
  rw [hmm, hp] at he
  have HBG := Lib.hid (fun wx => v_Big n 8 wx (by decide) (by decide) hn)
  rw [hX] at HBG
  have HFR := Lib.hid (fun wx => k_Frame L wx (by rw [hLz]; have := hs2.2; omega) f hf)
  have HFI := Lib.hid (fun wx => g_filled f wx (by rw [hfz, hLz]; have := hs2.2; omega) m hm2 G hfill)
  obtain ⟨r, hr⟩ : ∃ r, n % 2 = r := ⟨_, rfl⟩
  have hra : fr + r * k = a := by
    rw [← ha, ← hr]
    rcases (show n % 2 = 0 ∨ n % 2 = 1 by omega) with h | h
    · rw [h]; simp
    · rw [h]; simp
  have HST := Lib.hid (fun wx => g_start D fr k r wx (by omega) hk (by omega) a hra)
  have hak : a + m ≤ d.sec.length := by
    rw [← ha]
    split <;> omega
  have e1 : ((n : Nat) : Int).tmod 2 = (r : Int) := by rw [← hr]; exact Int.ofNat_tmod n 2
  have i1 : (r : Int) ≤ 1 := by omega
  have i2 : (0 : Int) ≤ (r : Int) := by omega
  have i3 : (a : Int) ≤ 4096 := by omega
  have HPL := Lib.hid hpl
  have HPB := Lib.hid hpb
  have HGS := Lib.hid hGs
  have HGZ := Lib.hid hGz
  have HAK := Lib.hid hak
  have HM := Lib.hid hm34
  have HDN := Lib.hid hd
  have HKK := Lib.hid hK
  have HE := Lib.hid he
  have HL := Lib.hid hfl
  have HW := Lib.hid hw
  have H0 := Lib.hid h
  -- the parameter, and the result
  obtain ⟨z, hz⟩ : ∃ z, w.heap.size = z := ⟨_, rfl⟩
  obtain ⟨w1, hw1⟩ : ∃ w1, w.alloc (.cells (prV D fr k).toArray 50) = w1 := ⟨_, rfl⟩
  obtain ⟨w2, hw2⟩ : ∃ w2, w1.alloc (.cells #[.int .i64 0] 29) = w2 := ⟨_, rfl⟩
  have z1 : w1.heap.size = z + 1 := by rw [← hw1, ← hz]; simp
  have hb2 : Below z w w2 := by rw [← hw2, ← hw1, ← hz]; exact ((Below.refl w.heap.size w).alloc (Nat.le_refl _) _).alloc (by simp) _
  have kP : Blk w2 z 50 (prV D fr k) := by rw [← hw2, ← hw1, ← hz]; exact (Blk.new' w 50 (prV D fr k) rfl).alloc _
  have kR : Blk w2 (z + 1) 29 [.int .i64 0] := by rw [← hw2, ← z1]; exact Blk.new' w1 29 [.int .i64 0] rfl
  have HZ := Lib.hid hz
  have HB2 := Lib.hid hb2
  have KP := Lib.hid kP
  have KR := Lib.hid kR
  unfold prV ptD at hw1 HST
  unfold prV ptD
  clear h hd hK hm1 hm2 hm3 hm4 hk1 hk hs2 hX hXz hL hLz hLs hf hfz hmm hmk hm34 hp hpl hpb hG hGs hGz hfill hr hra hak hfl hw hsec he ha hs hn hb2 kP kR
  refine (callsIn_wide (n := 9)).1 (callsIn_of_wp_marks Try.func19 rfl trivial ?_ rfl)
  simp only [Try.ntmps19, List.size_toArray, List.length_cons, List.length_nil, Nat.reduceAdd, Nat.reduceSub, Array.replicate_succ, Array.replicate_zero, List.push_toArray, List.append_toArray, List.nil_append, List.cons_append]
  refine wpIn_wide.2 ?_
  go_wp2_with fail
  refine (HBG.out _).mono ?_
  rintro x w3 ⟨rfl, hb3⟩
  have B3 := Lib.hid (HB2.out.trans (hb3.mono (by have := KP.out.lt; omega)))
  have KP3 := Lib.hid (KP.out.below hb3 KP.out.lt)
  have KR3 := Lib.hid (KR.out.below hb3 KR.out.lt)
  clear hb3 KP KR HB2
  go_wp2_with fail
  refine (HFR.out _).mono ?_
  rintro x w4 ⟨rfl, hb4⟩
  have B4 := Lib.hid (B3.out.trans (hb4.mono (by have := KP3.out.lt; omega)))
  have KP4 := Lib.hid (KP3.out.below hb4 KP3.out.lt)
  have KR4 := Lib.hid (KR3.out.below hb4 KR3.out.lt)
  clear hb4 KP3 KR3 B3
  unfold prV ptD at KP4
  go_wp2_with (refine wpList_load_blk rfl 50 _ rfl z rfl KP4.out Try.underlying50 rfl (by rw [size_pair]; rfl) ?_)
  (with_reducible refine (HST.out _).mono ?_)
  rintro x w5 ⟨rfl, hb5⟩
  have kP5 := KP4.out.below hb5 KP4.out.lt
  have kR5 := KR4.out.below hb5 KR4.out.lt
  have b5 := B4.out.trans (hb5.mono (by have := KP4.out.lt; omega))
  obtain ⟨y, hy⟩ : ∃ y, w5.heap.size = y := ⟨_, rfl⟩
  have hzy : z + 1 < y := by rw [← hy]; exact kR5.lt
  obtain ⟨w6, hw6⟩ : ∃ w6, (w5.alloc (.cells #[.int .i64 0] 3)).setCell ⟨y, 0, none⟩ (.int .i64 (a : Int)) = w6 := ⟨_, rfl⟩
  have kA6 : Blk w6 y 3 [.int .i64 (a : Int)] := by rw [← hw6, ← hy]; exact (Blk.new' w5 3 [.int .i64 0] rfl).set 0 (.int .i64 (a : Int))
  have b6 : Below y w5 w6 := by rw [← hw6, ← hy]; exact ((Below.refl w5.heap.size w5).alloc (Nat.le_refl _) _).setCell (p := ⟨w5.heap.size, 0, none⟩) (Nat.le_refl _) _
  have KA6 := Lib.hid kA6
  have KP6 := Lib.hid (kP5.below b6 (by omega))
  have KR6 := Lib.hid (kR5.below b6 (by omega))
  have B6 := Lib.hid (b5.trans (b6.mono (by omega)))
  have HY := Lib.hid hzy
  clear kP5 kR5 b5 kA6 b6 hb5 KP4 KR4 B4 hzy
  go_wp2_with fail
  (with_reducible refine (HFI.out _).mono ?_)
  rintro x w7 ⟨rfl, hb7⟩
  have KP7 := Lib.hid (KP6.out.below hb7 KP6.out.lt)
  have KR7 := Lib.hid (KR6.out.below hb7 KR6.out.lt)
  have KA7 := Lib.hid (KA6.out.below hb7 KA6.out.lt)
  have B7 := Lib.hid (B6.out.trans (hb7.mono (by have := KP6.out.lt; omega)))
  clear hb7 KP6 KR6 KA6 B6
  obtain ⟨c, hc⟩ : ∃ c, w7.heap.size = c := ⟨_, rfl⟩
  have HC := Lib.hid hc
  have HCY : Hid (y < c) := Lib.hid (by rw [← hc]; exact KA7.out.lt)
  go_wp2_with (refine wpList_bytes_at rfl 9 24 5 _ rfl c G rfl Try.underlying9 Try.underlying24 Try.underlying5 (Nat.le_of_eq HC.out.symm) (Nat.le_trans (Nat.le_of_eq HGZ.out) (Nat.le_trans (Nat.mul_le_mul_left 32 HM.out) (by decide))) ?_; intro cap w8 ho8 hb8; rw [hc] at ho8 hb8; rw [hc])
  --REST
  rw [HGZ.out] at ho8
  rw [HGZ.out]
  have KP8 := Lib.hid (KP7.out.below hb8 (by have := HCY.out; have := HY.out; omega))
  have KR8 := Lib.hid (KR7.out.below hb8 (by have := HCY.out; have := HY.out; omega))
  have KA8 := Lib.hid (KA7.out.below hb8 HCY.out)
  have B8 := Lib.hid (B7.out.trans (hb8.mono (by have := HCY.out; have := HY.out; omega)))
  have hcc : c < w8.heap.size := (ho8.lt c rfl).2
  have hcap : 32 * m ≤ cap := by
    rcases ho8.cases with ⟨h1, _⟩ | ⟨g, cp, h1, _, h2, _⟩
    · cases h1
    · rw [is_length, HGZ.out] at h1 h2
      cases h1
      exact h2
  obtain ⟨gs, hgs⟩ : ∃ gs, w8.heap.size = gs := ⟨_, rfl⟩
  obtain ⟨w9, hw9⟩ : ∃ w9, (w8.alloc (.cells #[.slice (some ⟨c, 0, none⟩) (32 * m) cap] 24)).alloc (.cells #[.int .i64 32] 3) = w9 := ⟨_, rfl⟩
  have kS : Blk w9 gs 24 [.slice (some ⟨c, 0, none⟩) (32 * m) cap] := by rw [← hw9, ← hgs]; exact (Blk.new' w8 24 [.slice (some ⟨c, 0, none⟩) (32 * m) cap] rfl).alloc _
  have kN : Blk w9 (gs + 1) 3 [.int .i64 32] := by rw [← hw9, ← hgs]; exact Blk.new2 w8 _ 3 [.int .i64 32] rfl
  have b9 : Below gs w8 w9 := by rw [← hw9, ← hgs]; exact ((Below.refl _ _).alloc (Nat.le_refl _) _).alloc (by simp) _
  have z9 : w9.heap.size = gs + 2 := by rw [← hw9, ← hgs]; simp
  have o9 := ho8.keep (hgs ▸ b9)
  have hgl := KA8.out.lt
  rw [hgs] at hcc hgl
  have KP9 := Lib.hid (KP8.out.below b9 (by have := KP8.out.lt; omega))
  have KR9 := Lib.hid (KR8.out.below b9 (by have := KR8.out.lt; omega))
  have KA9 := Lib.hid (KA8.out.below b9 (by have := KA8.out.lt; omega))
  have B9 := Lib.hid (B8.out.trans (b9.mono (by have := HY.out; omega)))
  have O9 := Lib.hid o9
  have H9 := Lib.hid (H0.out.below (by rw [HZ.out]; exact B9.out))
  have HM9 : Hid (M < w9.heap.size) := Lib.hid (by have := HL.out M (.inr (.inr (.inl rfl))); have := HZ.out; have := HY.out; omega)
  have HW9 : Hid (base ≤ w9.heap.size) := Lib.hid (by have := HW.out; have := HZ.out; have := HY.out; omega)
  have HZ9 : Hid (z + 1 < y ∧ y < c ∧ c < gs ∧ w9.heap.size = gs + 2) := Lib.hid ⟨HY.out, HCY.out, hcc, z9⟩
  have HCAP := Lib.hid hcap
  have HCH := Lib.hid (show Calls Try.prog 36 #[.slice (some ⟨c, 0, none⟩) (32 * m) cap, .int .i64 32] w8 (fun e w' => e = .returned (.func (.func 52) #[] #[.pointer (some ⟨gs, 0, none⟩), .pointer (some ⟨gs + 1, 0, none⟩)]) ∧ w' = w9) from by
    have := g_Chunk (.slice (some ⟨c, 0, none⟩) (32 * m) cap) w8 ⟨_, _, _, rfl⟩
    rw [hgs, hw9] at this
    exact this)
  clear hw9 ho8 hb8 hcc hcap b9 o9 hgl KP7 KR7 KA7 B7 KP8 KR8 KA8 B8 HFR HFI HBG HST hadd e1
  (with_reducible refine HCH.out.mono ?_)
  rintro x w10 ⟨rfl, rfl⟩
  clear HCH
  go_wp2_with fail
  obtain ⟨F, hF⟩ : ∃ F, foot D S M V q = F := ⟨_, rfl⟩
  have A9 : DkL base w w10 D S M F z w10.heap.size d := ⟨Nat.le_refl _, kk, E, V, q, H9.out, by rw [hF]; exact Turn.of_below (by rw [HZ.out]; exact B9.out) HW.out, fun b hb _ hf => by have := HL.out b hf; have := HZ.out; omega⟩
  have HNF : Hid (∀ b, z ≤ b → ¬ F b) := Lib.hid (fun b hb hf => by have := HL.out b (by rw [hF]; exact hf); have := HZ.out; omega)
  have hKb : ∀ (W : World) (l : Nat) (o o' : Obj), w10.heap.size ≤ l → W.heap[l]? = some o → o.isCells = false → o.isWalk = false → (∀ o2, W.heap[gs]? = some o2 → (W.putObj l o').heap[gs]? = some o2) ∧ (∀ o2, W.heap[gs + 1]? = some o2 → (W.putObj l o').heap[gs + 1]? = some o2) := fun W l o o' hl _ _ _ => by
    have := HZ9.out
    exact ⟨fun o2 ho2 => (World.putObj_heap_other (by omega)).trans ho2, fun o2 ho2 => (World.putObj_heap_other (by omega)).trans ho2⟩
  have HFF := Lib.hid hF
  have HWZ9 : Hid (w.heap.size ≤ w10.heap.size) := Lib.hid (by have := HZ9.out; have := HZ.out; omega)
  clear hF
  refine (wpIn_wide (n := 9)).1 ?_
  refine wpIn_rangeFunc_ownG (F := Fence.wide) (n := 9) rfl (by omega) (gf := 52) (lb := #[.pointer (some ⟨gs, 0, none⟩), .pointer (some ⟨gs + 1, 0, none⟩)]) rfl trivial (enters_of Try.func52 (by kernel_rfl) rfl)
    (g_cstops 8 gs (gs + 1) c m (32 * m) cap rfl (by have := HM.out; omega) HCAP.out (by omega) w10 kS kN) (fun h k => ⟨fun o ho => k.1 o (h.1 o ho), fun o ho => k.2 o (h.2 o ho)⟩) hKb (Below.refl _ _) (fun _ => rfl)
    (fun pre W => DkL base w W D S M F z w10.heap.size (writesD d a (pcsL p (pre.map (·.val)))) ∧ (∀ j, j < pre.length → offD (writesD d a (pcsL p ((pre.map (·.val)).take j))) = false) ∧ Blk W z 50 (prV D fr k) ∧ Blk W (z + 1) 29 [.int .i64 0] ∧ Blk W y 3 [.int .i64 ((a + pre.length : Nat) : Int)] ∧ OwnM W c 5 (.slice (some ⟨c, 0, none⟩) (32 * m) cap) (is G))
    (fun cd pre W => cd = .ret ∧ ∃ pre0 x0, pre = pre0 ++ [x0] ∧ DkL base w W D S M F z w10.heap.size (writesD d a (pcsL p (pre0.map (·.val)))) ∧ (∀ j, j < pre0.length → offD (writesD d a (pcsL p ((pre0.map (·.val)).take j))) = false) ∧ offD (writesD d a (pcsL p (pre0.map (·.val)))) = true ∧ Blk W (z + 1) 29 [.int .i64 130])
    (fun pre W W' row ⟨h1, h2, h3, h4, h5, h6⟩ hg hr => ⟨h1.kept HW.out HM9.out HWZ9.out hg hr, h2, h3.kept hg (fun r e => (hr r e).2), h4.kept hg (fun r e => (hr r e).2), h5.kept hg (fun r e => (hr r e).2), h6.same fun b hb => hg.block b (h6.lt b hb).2 fun e => by cases hb; have := (hr c e.symm).1; have := HZ9.out; omega⟩)
    (fun cd pre W W' row ⟨h0, pre0, x0, h1, h2, h3, h4, h5⟩ hg hr => ⟨h0, pre0, x0, h1, h2.kept HW.out HM9.out HWZ9.out hg hr, h3, h4, h5.kept hg (fun r e => (hr r e).2)⟩)
    ⟨A9, (fun j hj => absurd hj (by simp)), KP9.out, KR9.out, KA9.out, O9.out⟩
    (fun x => { tmps := #[.agg #[.pointer (some ⟨D, 0, none⟩), .int .i64 (fr : Int), .int .i64 (k : Int)], .int .u64 (n : Int), .string s, .pointer (some ⟨z, 0, none⟩), undef, undef, .pointer (some ⟨z + 1, 0, none⟩), .string f, .int .i64 0, .pointer (some ⟨y, 0, none⟩), chV c x.val, undef, .tuple #[.string f, .int .i64 0], .int .u64 (n : Int), .string X, .string s, .string L, .tuple #[.string f, .int .i64 0], .string f, .int .i64 0, .int .i64 0, .bool false, undef, .agg #[.pointer (some ⟨D, 0, none⟩), .int .i64 (fr : Int), .int .i64 (k : Int)], .int .u64 (n : Int), .int .u64 (r : Int), .int .i64 (r : Int), .int .i64 (a : Int), .string f, .string G, .slice (some ⟨c, 0, none⟩) (32 * m) cap, .func (.func 52) #[] #[.pointer (some ⟨gs, 0, none⟩), .pointer (some ⟨gs + 1, 0, none⟩)], chV c x.val, undef, undef, undef, undef, undef, undef, undef, undef, undef, undef, undef, undef, undef, undef], defers := [] }) ?assign ?body ?done ?stop
  case assign =>
    intro lp x W K' hK'
    gi_wp2
    exact hK'
  case body =>
    rintro lp pre ⟨i, hi⟩ W ⟨⟨hWS, k', E', V', q', hx, ht, hnf⟩, hon, h1, h2, h3, h4⟩ hlt
    have hall : ∀ t ∈ pcsL p (pre.map (·.val)), t.length = 32 ∧ Bys t := fun t ht => by
      obtain ⟨j, hj, rfl⟩ := List.mem_map.1 ht
      obtain ⟨⟨x, hx⟩, _, rfl⟩ := List.mem_map.1 hj
      exact ⟨pc_len HPL.out hx, pc_bys HPB.out x⟩
    have hll : (pcsL p (pre.map (·.val))).length = pre.length := by unfold pcsL; rw [List.length_map, List.length_map]
    have hsec : (writesD d a (pcsL p (pre.map (·.val)))).sec = d.sec := writes_sec _ _ _
    have hdn := dkn_writes (pcsL p (pre.map (·.val))) (i := a) HDN.out (by rw [hll]; have := HAK.out; omega) hall
    rw [hll] at hdn
    have hdb := hdn.b (by have := HKK.out; have := HM.out; omega)
    have hlt2 : a + pre.length < (writesD d a (pcsL p (pre.map (·.val)))).sec.length := by rw [hsec]; have := HAK.out; omega
    have hpl := pc_len HPL.out hi
    have hpb := pc_bys HPB.out i
    have hsx := sl_tx hpb
    have hzx : (tx (pcJ p i)).size = 32 := by rw [tx_size, hpl]
    have hsn : (pre ++ [(⟨i, hi⟩ : {i : Nat // i < m})]).map (·.val) = pre.map (·.val) ++ [i] := by simp
    have hrg := chunk_range h4 i
    rw [HGS.out] at hrg
    have hWz : w10.heap.size ≤ W.heap.size := hWS
    have c0 := h1.cell 0
    have c3 := h3.cell 0
    have c4 := h2.cell 0
    have f3 := h3.free 0
    unfold prV ptD at c0
    simp only [List.getElem?_cons_zero] at c0 c3 c4
    have hval : ((a + pre.length : Nat) : Int) + 1 = ((a + (pre.length + 1) : Nat) : Int) := by omega
    have hv0 : 0 ≤ ((a + pre.length : Nat) : Int) := by omega
    have hvle : ((a + pre.length : Nat) : Int) ≤ 5000 := by have := hdb.sec; have := HAK.out; omega
    have HX := Lib.hid hx
    have HT := Lib.hid ht
    have HSN := Lib.hid hsn
    have H1 := Lib.hid h1
    have H2 := Lib.hid h2
    have H3 := Lib.hid h3
    have H4 := Lib.hid h4
    have HON := Lib.hid hon
    have HNFF := Lib.hid hnf
    have HWZ := Lib.hid hWz
    have HVAL := Lib.hid hval
    have HRG := Lib.hid hrg
    have HPX := Lib.hid hpl
    have HLEN := Lib.hid hll
    obtain ⟨dd, hdd⟩ : ∃ dd, writesD d a (pcsL p (pre.map (·.val))) = dd := ⟨_, rfl⟩
    have hnew : writesD d a (pcsL p (pre.map (·.val) ++ [i])) = writeD dd (a + pre.length) (pcJ p i) := by
      rw [← hdd]
      unfold pcsL at hll ⊢
      rw [List.map_append, List.map_singleton, writes_snoc, hll]
    rw [hdd] at HX hdb hlt2
    have HNEW := Lib.hid hnew
    have HDD := Lib.hid hdd
    cases ho : offD dd with
    | false =>
      obtain ⟨e1, e2⟩ := wr_on hlt2 hpl ho
      have HWR := Lib.hid (d_Write HX.out hdb ((a + pre.length : Nat) : Int) (wf_small (a + pre.length) (by have := hdb.sec; omega)) (tx (pcJ p i)) 0 (writeD dd (a + pre.length) (pcJ p i)) (by rw [← e1, hpl, hzx]) (by rw [hsx, e2]))
      have HOF := Lib.hid ho
      unfold ptD at HWR
      clear hx ht h1 h2 h3 h4 hlt hsec hdn hdb hlt2 hpb hsx hzx e1 e2 hsn hall hll hon hrg hnf hWz hWS hval hnew hdd ho hpl A9 hKb kS kN hgs
      dsimp only
      generalize ((a + pre.length : Nat) : Int) = ai at *
      gi_wp2_with (refine wpListIn_string_mid rfl 24 9 5 _ rfl c (32 * i) 32 32 (nn (pcJ p i)) rfl Try.underlying24 Try.underlying5 Try.underlying9 HRG.out (by rw [nn_length, HPX.out]) ?_)
      refine ⟨trivial, ?_⟩
      change CallsIn Fence.wide _ _ _ _ _ _
      refine callsIn_wide.2 (HWR.out.mono ?_)
      rintro x w6 ⟨rfl, k6, E6, V6, q6, h6, t6⟩
      have hk := KeepsFrom.of_turn HX.out HM9.out t6
      have hz9 := HZ9.out
      have hwz := HWZ.out
      have r1 := t6.blk H1.out (HNFF.out z (Nat.le_refl z) (by omega))
      have r2 := t6.blk H2.out (HNFF.out (z + 1) (by omega) (by omega))
      have r3 := t6.blk H3.out (HNFF.out y (by omega) (by omega))
      have r4 := H4.out.same (w' := w6) fun b hb => t6.out b (H4.out.lt b hb).2 (by cases hb; exact HNFF.out c (by omega) (by omega))
      have rk : ∀ b, z ≤ b → b < w10.heap.size → w6.heap[b]? = W.heap[b]? := fun b h1 h2 => t6.out b (by omega) (HNFF.out b h1 h2)
      have a6 := DkL.step HW.out (Nat.le_of_eq HZ.out) hwz HT.out HNFF.out h6 t6 y (by omega) (by omega) (.int .i64 (ai + 1))
      rw [← HNEW.out, ← HSN.out] at a6
      have s3 := r3.set 0 (.int .i64 (ai + 1))
      have c3' := r3.cell 0
      have f3' := r3.free 0
      simp only [List.getElem?_cons_zero] at c3'
      have hfin : KeepsFrom w10.heap.size W (w6.setCell ⟨y, 0, none⟩ (.int .i64 (ai + 1))) ∧ ((∀ o, W.heap[gs]? = some o → (w6.setCell ⟨y, 0, none⟩ (.int .i64 (ai + 1))).heap[gs]? = some o) ∧ (∀ o, W.heap[gs + 1]? = some o → (w6.setCell ⟨y, 0, none⟩ (.int .i64 (ai + 1))).heap[gs + 1]? = some o)) ∧
          DkL base w (w6.setCell ⟨y, 0, none⟩ (.int .i64 (ai + 1))) D S M F z w10.heap.size (writesD d a (pcsL p ((pre ++ [(⟨i, hi⟩ : {i : Nat // i < m})]).map (·.val)))) ∧ (∀ j, j < (pre ++ [(⟨i, hi⟩ : {i : Nat // i < m})]).length → offD (writesD d a (pcsL p (((pre ++ [(⟨i, hi⟩ : {i : Nat // i < m})]).map (·.val)).take j))) = false) ∧
          Blk (w6.setCell ⟨y, 0, none⟩ (.int .i64 (ai + 1))) z 50 (prV D fr k) ∧ Blk (w6.setCell ⟨y, 0, none⟩ (.int .i64 (ai + 1))) (z + 1) 29 [.int .i64 0] ∧ Blk (w6.setCell ⟨y, 0, none⟩ (.int .i64 (ai + 1))) y 3 [.int .i64 ((a + (pre ++ [(⟨i, hi⟩ : {i : Nat // i < m})]).length : Nat) : Int)] ∧ OwnM (w6.setCell ⟨y, 0, none⟩ (.int .i64 (ai + 1))) c 5 (.slice (some ⟨c, 0, none⟩) (32 * m) cap) (is G) := by
        refine ⟨hk.trans (KeepsFrom.of_grownBy (grownBy_setCell' w6 y _) (fun j e => by cases e; omega)), ⟨fun o ho => ?_, fun o ho => ?_⟩, a6, fun j hj => ?_, r1.other (a := ⟨y, 0, none⟩) (show y ≠ z by omega) _, r2.other (a := ⟨y, 0, none⟩) (show y ≠ z + 1 by omega) _, ?_, r4.other (b := y) (by omega) _⟩
        · exact (Below.heap_setCell _ _ _ gs (show gs ≠ y by omega)).trans ((rk gs (by omega) (by omega)).trans ho)
        · exact (Below.heap_setCell _ _ _ (gs + 1) (show gs + 1 ≠ y by omega)).trans ((rk (gs + 1) (by omega) (by omega)).trans ho)
        · rw [HSN.out]
          rw [List.length_append, List.length_singleton] at hj
          rcases Nat.lt_or_ge j pre.length with hj2 | hj2
          · rw [List.take_append_of_le_length (by rw [List.length_map]; omega)]
            exact HON.out j hj2
          · obtain rfl : j = pre.length := by omega
            rw [show pre.length = (pre.map (·.val)).length by rw [List.length_map], List.take_left, HDD.out]
            exact HOF.out
        · have := HVAL.out
          rw [List.length_append, List.length_singleton, ← this]
          exact s3
      have HFin := Lib.hid hfin
      clear hk r1 r2 r3 r4 rk a6 s3 h6 t6 hz9 hwz hfin
      gi_wp2
      exact HFin.out
    | true =>
      obtain ⟨e1, e2⟩ := wr_off hlt2 hpl ho
      have HWR := Lib.hid (d_Write HX.out hdb ((a + pre.length : Nat) : Int) (wf_small (a + pre.length) (by have := hdb.sec; omega)) (tx (pcJ p i)) 130 dd (by rw [← e1, hpl, hzx]) (by rw [hsx, e2]))
      have HOF := Lib.hid ho
      unfold ptD at HWR
      clear hx ht h1 h2 h3 h4 hlt hsec hdn hdb hlt2 hpb hsx hzx e1 e2 hsn hall hll hon hnf hWz hWS hval hnew hdd ho hpl hrg A9 hKb kS kN hgs
      dsimp only
      generalize ((a + pre.length : Nat) : Int) = ai at *
      gi_wp2_with (refine wpListIn_string_mid rfl 24 9 5 _ rfl c (32 * i) 32 32 (nn (pcJ p i)) rfl Try.underlying24 Try.underlying5 Try.underlying9 HRG.out (by rw [nn_length, HPX.out]) ?_)
      refine ⟨trivial, ?_⟩
      change CallsIn Fence.wide _ _ _ _ _ _
      refine callsIn_wide.2 (HWR.out.mono ?_)
      rintro x w6 ⟨rfl, k6, E6, V6, q6, h6, t6⟩
      have hk := KeepsFrom.of_turn HX.out HM9.out t6
      have hz9 := HZ9.out
      have hwz := HWZ.out
      have r1 := t6.blk H1.out (HNFF.out z (Nat.le_refl z) (by omega))
      have r2 := t6.blk H2.out (HNFF.out (z + 1) (by omega) (by omega))
      have r3 := t6.blk H3.out (HNFF.out y (by omega) (by omega))
      have r4 := H4.out.same (w' := w6) fun b hb => t6.out b (H4.out.lt b hb).2 (by cases hb; exact HNFF.out c (by omega) (by omega))
      have rk : ∀ b, z ≤ b → b < w10.heap.size → w6.heap[b]? = W.heap[b]? := fun b h1 h2 => t6.out b (by omega) (HNFF.out b h1 h2)
      have a6 := DkL.step HW.out (Nat.le_of_eq HZ.out) hwz HT.out HNFF.out h6 t6 (z + 1) (by omega) (by omega) (.int .i64 130)
      rw [← HDD.out] at a6
      have s2 := r2.set 0 (.int .i64 130)
      have c2' := r2.cell 0
      have f2' := r2.free 0
      simp only [List.getElem?_cons_zero] at c2'
      have hfin : KeepsFrom w10.heap.size W (w6.setCell ⟨z + 1, 0, none⟩ (.int .i64 130)) ∧ Code.ret = Code.ret ∧ ∃ (pre0 : List {i : Nat // i < m}) (x0 : {i : Nat // i < m}), pre ++ [(⟨i, hi⟩ : {i : Nat // i < m})] = pre0 ++ [x0] ∧ DkL base w (w6.setCell ⟨z + 1, 0, none⟩ (.int .i64 130)) D S M F z w10.heap.size (writesD d a (pcsL p (pre0.map (·.val)))) ∧ (∀ j, j < pre0.length → offD (writesD d a (pcsL p ((pre0.map (·.val)).take j))) = false) ∧ offD (writesD d a (pcsL p (pre0.map (·.val)))) = true ∧ Blk (w6.setCell ⟨z + 1, 0, none⟩ (.int .i64 130)) (z + 1) 29 [.int .i64 130] :=
        ⟨hk.trans (KeepsFrom.of_grownBy (grownBy_setCell' w6 (z + 1) _) (fun j e => by cases e; omega)), rfl, pre, ⟨i, hi⟩, rfl, a6, HON.out, by rw [HDD.out]; exact HOF.out, s2⟩
      have HFin := Lib.hid hfin
      clear hk r1 r2 r3 r4 rk a6 s2 h6 t6 hz9 hwz hfin
      gi_wp2
      exact ⟨HFin.out.1, rfl, HFin.out.2.2⟩
  case done =>
    rintro Dd ys W hD hys ⟨⟨hWS, k', E', V', q', hx, ht, hnf⟩, hon, h1, h2, h3, h4⟩ hK
    have hlen : ys.length = m := by
      have := congrArg List.length hys
      rwa [List.length_map, List.length_range] at this
    rw [hys, pcsL_range] at hx
    have hsv := svF_all (chunksK m p) d a (fun j hj => by
      rw [chunks_len] at hj
      have := hon j (by omega)
      rw [hys, List.take_range, Nat.min_eq_left (by omega), pcsL_range] at this
      rw [chunks_take p (by omega)]
      exact this)
    rw [HE.out] at hsv
    obtain ⟨e1, e2⟩ := Prod.mk.inj hsv
    have hsec : (writesD d a (chunksK m p)).sec = d.sec := writes_sec _ _ _
    have hdn := dkn_writes (chunksK m p) (i := a) HDN.out (by rw [chunks_len]; exact HAK.out) fun t ht => ⟨chunks_each _ _ HPL.out t ht, chunks_bys _ HPB.out t ht⟩
    rw [chunks_len] at hdn
    have hdb := hdn.b (by have := HKK.out; have := HM.out; omega)
    have HSY := Lib.hid (d_Sync hx hdb e d' e1.symm e2.symm)
    have hz9 := HZ9.out
    have HT := Lib.hid ht
    have HNFF := Lib.hid hnf
    have HWS := Lib.hid hWS
    have HX := Lib.hid hx
    have H2 := Lib.hid h2
    have HKK2 := Lib.hid hK
    have HDD := Lib.hid hD
    have c0 := h1.cell 0
    unfold prV ptD at c0
    simp only [List.getElem?_cons_zero] at c0
    unfold ptD at HSY
    clear hx ht hnf hon h1 h2 h3 h4 hK hys hlen hsv e1 e2 hsec hdn hdb A9 hKb kS kN hgs hWS hD hz9
    go_wp2_with fail
    refine HSY.out.mono ?_
    rintro x w6 ⟨rfl, k6, E6, V6, q6, h6, t6⟩
    have hz9 := HZ9.out
    have hws := HWS.out
    have r2 := t6.blk H2.out (HNFF.out (z + 1) (by omega) (by omega))
    have c2' := r2.cell 0
    have f2' := r2.free 0
    simp only [List.getElem?_cons_zero] at c2'
    have hKd : w6.heap[Dd]? = some (.deferred (some [])) := by
      refine (t6.out Dd (Array.getElem?_eq_some_iff.1 HKK2.out).1 fun hf => ?_).trans HKK2.out
      rcases HX.out.cellsOr hf with rfl | hx
      · have := HM9.out; have := HDD.out; omega
      · have := hx _ HKK2.out; cases this
    have a6 := DkL.step HW.out (Nat.le_of_eq HZ.out) hws HT.out HNFF.out h6 t6 (z + 1) (by omega) (by omega) (.int .i64 (e : Int))
    have s2 := r2.set 0 (.int .i64 (e : Int))
    have hDd : Dd ≠ z + 1 := by have := HDD.out; omega
    have hKd2 : (w6.setCell ⟨z + 1, 0, none⟩ (.int .i64 (e : Int))).heap[Dd]? = some (.deferred (some [])) := (Below.heap_setCell _ _ _ Dd hDd).trans hKd
    have HA6 := Lib.hid a6
    have HRE := Lib.hid s2
    have HK2 := Lib.hid hKd2
    clear r2 hKd a6 s2 hDd hKd2 h6 t6 hz9 hws
    go_wp2
    have hK := HK2.out
    refine ⟨by simp, .inl ⟨_, _, rfl, run_takeDeferred hK, ?_⟩⟩
    have hg := grownBy_putObj' (w6.setCell ⟨z + 1, 0, none⟩ (.int .i64 (e : Int))) Dd (.deferred none)
    have rF := HRE.out.kept hg (fun r e => by cases e; exact ⟨_, hK, rfl⟩)
    have aF := HA6.out.kept HW.out HM9.out HWZ9.out hg (fun r e => by cases e; exact ⟨HDD.out, _, hK, rfl⟩)
    obtain ⟨_, k7, E7, V7, q7, h7, t7, _⟩ := aF
    exact ⟨_, results_cell1 rfl _ _ (z + 1) rfl (rF.cell 0) Try.underlying29 rfl, rfl, by rw [HFF.out]; exact ⟨k7, E7, V7, q7, h7, t7⟩⟩
  case stop =>
    rintro Dd cd pre W hD ⟨i, hi, hpre⟩ ⟨rfl, pre0, x0, rfl, ⟨hWS, k', E', V', q', hx, ht, hnf⟩, hon, hof, hr⟩ hK
    rw [List.map_append, List.map_singleton, List.range_succ] at hpre
    have hp0 : pre0.map (·.val) = List.range i := (List.append_inj' hpre rfl).1
    have hl0 : pre0.length = i := by
      have := congrArg List.length hp0
      rwa [List.length_map, List.length_range] at this
    rw [hp0, pcsL_range] at hx hof
    have hsv := svF_stop (chunksK m p) d a i (by rw [chunks_len]; exact hi) (fun j hj => by
      have := hon j (by omega)
      rw [hp0, List.take_range, Nat.min_eq_left (by omega), pcsL_range] at this
      rw [chunks_take p (by omega)]
      exact this) (by rw [chunks_take p (by omega)]; exact hof)
    rw [HE.out, chunks_take p (by omega)] at hsv
    obtain ⟨rfl, rfl⟩ := Prod.mk.inj hsv
    refine wpIn_wide.2 ?_
    have HR := Lib.hid hr
    have HX := Lib.hid hx
    have HT := Lib.hid ht
    have HNFF := Lib.hid hnf
    have HKK2 := Lib.hid hK
    have HDD := Lib.hid hD
    have HWS := Lib.hid hWS
    clear hr hx ht hnf hK hD hWS hpre hp0 hl0 hsv hon hof A9 hKb kS kN hgs
    go_wp2
    have hK := HKK2.out
    have hr := HR.out
    have hD := HDD.out
    refine ⟨by simp, .inl ⟨_, _, rfl, run_takeDeferred hK, ?_⟩⟩
    have hg := grownBy_putObj' W Dd (.deferred none)
    have rF := hr.kept hg (fun r e => by cases e; exact ⟨_, hK, rfl⟩)
    have aF := DkL.kept ⟨HWS.out, k', E', V', q', HX.out, HT.out, HNFF.out⟩ HW.out HM9.out HWZ9.out hg (fun r e => by cases e; exact ⟨hD, _, hK, rfl⟩)
    obtain ⟨_, k7, E7, V7, q7, h7, t7, _⟩ := aF
    exact ⟨_, results_cell1 rfl _ _ (z + 1) rfl (rF.cell 0) Try.underlying29 rfl, rfl, by rw [HFF.out]; exact ⟨k7, E7, V7, q7, h7, t7⟩⟩
end Go.Proofs.Ytccplgicfbfjiaa
