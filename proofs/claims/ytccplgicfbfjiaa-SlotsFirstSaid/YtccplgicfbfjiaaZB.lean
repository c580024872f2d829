/- Walks of the program's disk: Read, Safe, Off, New. -/
import Derived.Test.YtccplgicfbfjiaaZA
import Derived.Laws.EntriesVeiled
import Derived.Test.YtccplgicfbfjiaaG1
import Derived.Laws.MakeOwn
import Derived.Test.YtccplgicfbfjiaaJ1
import Derived.Great.BuildSlice
import Derived.Maps.AppendAt
namespace Go.Proofs.Ytccplgicfbfjiaa
open Go.RowKit
set_option linter.unusedVariables false

variable {w : World} {base D S M k : Nat} {E : DataW Unit} {V : Nat → Value} {q : Option (Nat × Int)} {d : DiskM}
theorem DkW.turn (h : DkW w base D S M k E V q d) {w' : World} (hb : Below w.heap.size w w') : DkW w' base D S M k E V q d ∧ Turn base w w' (foot D S M V q) (foot D S M V q) :=
  ⟨h.below hb, Turn.of_below hb (by have := h.blk.lt; have := h.hD; omega)⟩
set_option maxRecDepth 100000 in
theorem d_Read (h : DkW w base D S M k E V q d) (hb : DkB d) (i : Int) (hi : (Lit.int .i64 i).wf = true) (s : ByteArray) (e : Nat) (he : rdE d i = (sl s, e)) :
    Calls Try.prog 44 #[ptD D, .int .i64 i] w fun x w' => x = .returned (.tuple #[.string s, .int .i64 (e : Int)]) ∧ DkW w' base D S M k E V q d ∧ Turn base w w' (foot D S M V q) (foot D S M V q) := by
  have hw : base ≤ w.heap.size := by have := h.blk.lt; have := h.hD; omega
  have hlen := hb.sec
  unfold rdE at he
  cases ho : offD d with
  | true =>
    rw [ho, if_pos rfl] at he
    obtain rfl : s = ⟨#[]⟩ := sl_inj ((congrArg Prod.fst he).symm)
    obtain rfl : 130 = e := congrArg Prod.snd he
    have HO := Lib.hid (d_isOn h hw false ho)
    unfold ptD at HO ⊢
    clear h hb he ho
    go_enter Try.func44, Try.ntmps44
    go_wp2_with (go_at_call 61; (with_reducible refine HO.out.mono ?_); rintro e w1 ⟨rfl, h1, t1⟩)
    go_ret2
    exact ⟨rfl, h1, t1⟩
  | false =>
    rw [ho, if_neg (by decide)] at he
    have HO := Lib.hid (d_isOn h hw true ho)
    by_cases hin : inD d i
    · rw [if_pos hin] at he
      obtain ⟨n, rfl⟩ : ∃ n : Nat, i = (n : Int) := ⟨i.toNat, by unfold inD at hin; omega⟩
      have hn : n < d.sec.length := by unfold inD at hin; omega
      rw [Int.toNat_natCast] at he
      obtain ⟨h1, h2⟩ : readD d n = sl s ∧ 0 = e := ⟨congrArg Prod.fst he, congrArg Prod.snd he⟩
      subst h2
      have HH := Lib.hid (fun (wx : World) (hx : DkW wx base D S M k E V q d) => d_has hx (n : Int) true (.inl ⟨rfl, hin⟩) hlen)
      have HL := Lib.hid (fun (wx : World) (hx : DkW wx base D S M k E V q d) => d_last hx hb n hn (sl s) h1)
      have HT := Lib.hid (d_text (sl s) (by rw [← h1]; exact read_len hb.ok hn))
      rw [tx_sl] at HT
      obtain ⟨R, hR⟩ : ∃ R, rowB (sl s) = R := ⟨_, rfl⟩
      rw [hR] at HT HL
      unfold ptD at HO HH HL ⊢
      clear h hb he ho hin hn h1 hR hi hlen
      go_enter Try.func44, Try.ntmps44
      go_wp2_with fail
      (with_reducible refine HO.out.mono ?_)
      rintro e w1 ⟨rfl, h1, t1⟩
      have H1 := Lib.hid h1
      have T1 := Lib.hid t1
      clear h1 t1
      go_wp2_with fail
      (with_reducible refine (HH.out w1 H1.out).mono ?_)
      rintro e w2 ⟨rfl, rfl⟩
      go_wp2_with fail
      (with_reducible refine (HL.out w2 H1.out).mono ?_)
      rintro e w3 ⟨rfl, hb3⟩
      have B3 := Lib.hid hb3
      clear hb3
      go_wp2_with fail
      (with_reducible refine (HT.out w3).mono ?_)
      rintro e w4 ⟨rfl, hb4⟩
      have B4 := Lib.hid (B3.out.trans (hb4.mono B3.out.size))
      clear hb4
      go_wp2
      go_ret2
      have hf := H1.out.turn B4.out
      exact ⟨rfl, hf.1, T1.out.trans hf.2⟩
    · rw [if_neg hin] at he
      obtain rfl : s = ⟨#[]⟩ := sl_inj ((congrArg Prod.fst he).symm)
      obtain rfl : 131 = e := congrArg Prod.snd he
      have HH := Lib.hid (fun (wx : World) (hx : DkW wx base D S M k E V q d) => d_has hx i false (.inr ⟨rfl, hin⟩) hlen)
      unfold ptD at HO HH ⊢
      clear h hb he ho hin hi hlen
      go_enter Try.func44, Try.ntmps44
      go_wp2_with fail
      (with_reducible refine HO.out.mono ?_)
      rintro e w1 ⟨rfl, h1, t1⟩
      have H1 := Lib.hid h1
      have T1 := Lib.hid t1
      clear h1 t1
      go_wp2_with fail
      (with_reducible refine (HH.out w1 H1.out).mono ?_)
      rintro e w2 ⟨rfl, rfl⟩
      go_wp2
      go_ret2
      exact ⟨rfl, H1.out, T1.out⟩
set_option maxRecDepth 100000 in
theorem d_Safe (h : DkW w base D S M k E V q d) (hb : DkB d) (i : Int) (hi : (Lit.int .i64 i).wf = true) (s : ByteArray) (he : sfD d i = sl s) :
    Calls Try.prog 12 #[ptD D, .int .i64 i] w fun x w' => x = .returned (.string s) ∧ Below w.heap.size w w' := by
  have hlen := hb.sec
  unfold sfD at he
  by_cases hin : inD d i
  · rw [if_pos hin] at he
    obtain ⟨n, rfl⟩ : ∃ n : Nat, i = (n : Int) := ⟨i.toNat, by unfold inD at hin; omega⟩
    have hn : n < d.sec.length := by unfold inD at hin; omega
    rw [Int.toNat_natCast] at he
    have HH := Lib.hid (d_has h (n : Int) true (.inl ⟨rfl, hin⟩) hlen)
    have hsl : (sl s).length = 32 := by rw [← he]; exact getD_mem32 hb.ok hn
    have HT := Lib.hid (d_text (sl s) hsl)
    rw [tx_sl] at HT
    have hrow := row_at hn (h.slS hb.ok)
    rw [he] at hrow
    have hRl : (rowB (sl s)).length = 32 := by rw [rowB_len, hsl]
    obtain ⟨R, hR⟩ : ∃ R, rowB (sl s) = R := ⟨_, rfl⟩
    rw [hR] at HT hrow hRl
    have HROW := Lib.hid hrow
    have HRl := Lib.hid hRl
    have c0 := h.c0
    have hin' : (n : Int) < (d.sec.length : Int) := by omega
    unfold ptD at HH ⊢
    clear h hb he hin hn hsl hrow hR hRl hi
    generalize d.sec.length = m at *
    go_enter Try.func12, Try.ntmps12
    go_wp2_with fail
    (with_reducible refine HH.out.mono ?_)
    rintro e w2 ⟨rfl, rfl⟩
    go_wp2_with (first | (refine wpList_load_addr rfl 64 _ rfl _ rfl R HROW.out Try.underlying64 rfl (by rw [size_sec, HRl.out]) ?_) | (go_at_call 25; (with_reducible refine (HT.out _).mono ?_); rintro e w4 ⟨rfl, hb4⟩))
    go_ret
    exact ⟨rfl, hb4⟩
  · rw [if_neg hin] at he
    obtain rfl : s = ⟨#[]⟩ := sl_inj (by rw [← he]; rfl)
    have HH := Lib.hid (d_has h i false (.inr ⟨rfl, hin⟩) hlen)
    unfold ptD at HH ⊢
    clear h hb he hin hi hlen
    go_enter Try.func12, Try.ntmps12
    go_wp2_with fail
    (with_reducible refine HH.out.mono ?_)
    rintro e w2 ⟨rfl, rfl⟩
    go_wp2
    go_ret
    exact ⟨rfl, Below.refl _ _⟩
/-- a power is set -/
theorem DkW.setPower (h : DkW w base D S M k E V q d) {q' : Option (Nat × Int)} {d' : DiskM} (hs : d'.sec = d.sec) (hp : d'.pen = d.pen) (hq : pwIs d' q') (hl : ∀ L l, q' = some (L, l) → Blk w L 3 [.int .i64 l] ∧ base ≤ L) (hn : ∀ L l, q' = some (L, l) → ¬ foot D S M V q L) :
    DkW (w.setCell ⟨D, 2, none⟩ (pwV q')) base D S M k E V q' d' := by
  have ho : ∀ i, i ≠ D → (w.setCell ⟨D, 2, none⟩ (pwV q')).heap[i]? = w.heap[i]? := fun i hi => Below.heap_setCell _ _ _ i hi
  refine ⟨?_, ?_, ?_, by rw [hp]; exact h.len, fun i => ?_, h.apart, h.offS, fun L l e => ?_, hq, h.hD, h.hS, h.hM⟩
  · rw [hs]; exact h.blk.set 2 (pwV q')
  · rw [hs]; exact (ho S (fun e => h.neDS e.symm)).trans h.sec
  · rw [hs, hp]; exact h.pen.same (ho M (fun e => h.neDM e.symm))
  · rw [hp]; exact DkW.ownSame (h.own i) fun b e => ho b (h.neVD e)
  · obtain ⟨h1, h2⟩ := hl L l e
    exact ⟨(ho L (fun e2 => hn L l e (.inl e2))).trans h1, h2⟩
set_option maxRecDepth 100000 in
theorem d_Off (h : DkW w base D S M k E V q d) (after : Int) (ha : (Lit.int .i64 after).wf = true) :
    Calls Try.prog 13 #[ptD D, .int .i64 after] w fun x w' => x = .returned (.tuple #[]) ∧ (∃ q', DkW w' base D S M k E V q' (cutD d after) ∧ Turn base w w' (foot D S M V q) (foot D S M V q')) := by
  have hw : base ≤ w.heap.size := by have := h.blk.lt; have := h.hD; omega
  obtain ⟨w1, hw1⟩ : ∃ w1, w.alloc (.cells #[.int .i64 after] 3) = w1 := ⟨_, rfl⟩
  have hb1 : Below w.heap.size w w1 := by rw [← hw1]; exact (Below.refl w.heap.size w).alloc (Nat.le_refl _) _
  obtain ⟨h1, t1⟩ := h.turn hb1
  have hL : Blk w1 w.heap.size 3 [.int .i64 after] := by rw [← hw1]; exact Blk.new' w _ _ rfl
  have hnot : ∀ q'' i, foot D S M V q'' i → q'' = q → i < w.heap.size := fun q'' i hi e => by subst e; exact (h.lt i hi).2
  have hpw : pwIs (cutD d after) (some (w.heap.size, after)) := ⟨rfl, by show 0 < after ↔ 0 < max after 0; omega, fun e => by show after = max after 0; have : (0 : Int) < after := e; omega, ha⟩
  have hf : DkW (w1.setCell ⟨D, 2, none⟩ (pwV (some (w.heap.size, after)))) base D S M k E V (some (w.heap.size, after)) (cutD d after) :=
    h1.setPower rfl rfl hpw (fun L l e => by cases e; exact ⟨hL, hw⟩) (fun L l e hx => by cases e; have := hnot q _ hx rfl; omega)
  have t2 : Turn base w (w1.setCell ⟨D, 2, none⟩ (pwV (some (w.heap.size, after)))) (foot D S M V q) (foot D S M V (some (w.heap.size, after))) := by
    have hg := grown_setCell w1 ⟨D, 2, none⟩ (pwV (some (w.heap.size, after)))
    have ht := t1.trans (Turn.of_grown (F := foot D S M V q) hg (Nat.le_trans hw hb1.size) (fun b e => by cases e; exact ⟨.inl rfl, h.hD⟩))
    refine ⟨ht.b, ht.out, fun i hi => ?_⟩
    rcases hi with e | e | e | e | e
    · exact .inl (.inl e)
    · exact .inl (.inr (.inl e))
    · exact .inl (.inr (.inr (.inl e)))
    · cases e; exact .inr (Nat.le_refl _)
    · exact .inl (.inr (.inr (.inr (.inr e))))
  have c2 := h1.c2
  have f2 := h1.blk.free 2
  have HF := Lib.hid hf
  have T2 := Lib.hid t2
  have HG := Lib.hid (d_going after w)
  rw [hw1] at HG
  unfold pwV at HF T2 HG
  unfold ptD
  clear h hb1 h1 t1 hL hnot hpw hf t2 hw1 ha hw
  go_enter Try.func13, Try.ntmps13
  go_wp2_with (go_at_call 26; (with_reducible refine HG.out.mono ?_); rintro e w2 ⟨rfl, rfl⟩)
  go_end0
  exact ⟨rfl, _, HF.out, T2.out⟩
end Go.Proofs.Ytccplgicfbfjiaa
namespace Go.Proofs.Ytccplgicfbfjiaa
open Go.RowKit
set_option linter.unusedVariables false

def zerS (n : Nat) : List Value := (rowsB (List.replicate n (zerN 32))).flatten
theorem zerS_is (n : Nat) : zerS n = List.replicate (n * 32) (.int .u8 0) := by
  have h32 : rowB (zerN 32) = List.replicate 32 (.int .u8 0) := by unfold rowB ints nn zerN; rw [List.map_replicate, List.map_replicate]; rfl
  unfold zerS rowsB
  rw [List.map_replicate, h32]
  induction n with
  | zero => rfl
  | succ n ih => rw [List.replicate_succ, List.flatten_cons, ih, List.replicate_append_replicate]; congr 1; omega
theorem made_same (k n : Nat) (x : Value) (hk : 0 < k) : madeCells (List.replicate k x).toArray n = (List.replicate n x).toArray := by
  apply Array.ext
  · simp [madeCells]
  · intro j h1 h2
    have hm : j % k < k := Nat.mod_lt _ hk
    simp [madeCells, hm]
theorem sec_make (n : Nat) (hn : n ≤ 4096) (w : World) : (Instr.makeSlice 42 (.int .i64 (n : Int)) (.int .i64 (n : Int))).run Try.prog w = .ok (.slice (some ⟨w.heap.size, 0, none⟩) n n) (w.alloc (.cells (zerS n).toArray 64)) := by
  obtain ⟨i, hi, hz, hs, hb⟩ := info_parts2 info_sec
  have hr := run_make (P := Try.prog) w 42 64 i _ Try.underlying42 hi hz .i64 .i64 (n : Int) (n : Int) (by omega) (Int.le_refl _) (by rw [hb]; omega) (by omega)
  rw [hr]
  simp only [Int.toNat_natCast, hs]
  have e : madeCells (Value.agg (rowB (zerN 32)).toArray).cells (n * 32) = (zerS n).toArray := by
    rw [zerS_is]
    show madeCells (rowB (zerN 32)).toArray (n * 32) = _
    have h32 : rowB (zerN 32) = List.replicate 32 (.int .u8 0) := by unfold rowB ints nn zerN; rw [List.map_replicate, List.map_replicate]; rfl
    rw [h32]
    exact made_same 32 (n * 32) _ (by decide)
  rw [e]
def nwF (n : Nat) (u : Nat → Value) : Array Value := #[.int .i64 (n : Int), undef, u 6, .int .i64 (n : Int), .bool false, .bool false, .int .i64 (n : Int), .bool false, .bool false, u 0, u 1, u 2, u 3, u 4, u 5]
def nwD (b m n : Nat) : List Value := [.slice (some ⟨b, 0, none⟩) n n, .map (some m), pwV none]
def nwS (H n : Nat) (i : Nat) (v : Value) (W : World) : Prop :=
  match i with
  | 0 => v = .int .i64 (n : Int)
  | 1 => ∃ b, H ≤ b ∧ v = .slice (some ⟨b, 0, none⟩) n n ∧ Blk W b 64 (zerS n)
  | 2 => ∃ m, H ≤ m ∧ v = .map (some m) ∧ W.heap[m]? = some (.map #[] 0)
  | 3 => v = pwV none
  | 4 => ∃ b m, H ≤ b ∧ H ≤ m ∧ v = .agg (nwD b m n).toArray ∧ Blk W b 64 (zerS n) ∧ W.heap[m]? = some (.map #[] 0)
  | 5 | 6 => ∃ D b m, H ≤ D ∧ H ≤ b ∧ H ≤ m ∧ v = .pointer (some ⟨D, 0, none⟩) ∧ Blk W D 48 (nwD b m n) ∧ Blk W b 64 (zerS n) ∧ W.heap[m]? = some (.map #[] 0)
  | _ => True
theorem heap_lt {W : World} {m : Nat} {o : Obj} (h : W.heap[m]? = some o) : m < W.heap.size := (Array.getElem?_eq_some_iff.1 h).1
theorem heap_below {W W' : World} {m : Nat} {o : Obj} (h : W.heap[m]? = some o) (hb : Below W.heap.size W W') : W'.heap[m]? = some o := (hb.block m (heap_lt h)).trans h
theorem nwS_mono (H n : Nat) (i : Nat) (v : Value) (W W' : World) (h : nwS H n i v W) (hb : Below W.heap.size W W') : nwS H n i v W' := by
  match i with
  | 0 | 3 => exact h
  | 1 =>
    obtain ⟨b, h1, h2, h3⟩ := h
    exact ⟨b, h1, h2, h3.below hb h3.lt⟩
  | 2 =>
    obtain ⟨b, h1, h2, h3⟩ := h
    exact ⟨b, h1, h2, heap_below h3 hb⟩
  | 4 =>
    obtain ⟨b, m, h1, h2, h3, h4, h5⟩ := h
    exact ⟨b, m, h1, h2, h3, h4.below hb h4.lt, heap_below h5 hb⟩
  | 5 | 6 =>
    obtain ⟨D, b, m, h1, h2, h3, h4, h5, h6, h7⟩ := h
    exact ⟨D, b, m, h1, h2, h3, h4, h5.below hb h5.lt, h6.below hb h6.lt, heap_below h7 hb⟩
  | _ + 7 => trivial
theorem d_New_no (n : Int) (w : World) (hn : ¬ (1 ≤ n ∧ n ≤ 4096)) : Calls Try.prog 8 #[.int .i64 n] w fun e w' => e = .returned (.pointer none) ∧ w' = w := by
  by_cases h1 : n < 1
  · have d1 : decide (n < 1) = true := by simpa using h1
    clear hn
    go_enter Try.func8, Try.ntmps8
    go_wp2
    go_ret
    exact ⟨rfl, rfl⟩
  · have d1 : decide (n < 1) = false := by simpa using h1
    have h2 : 4096 < n := by omega
    have d2 : decide (4096 < n) = true := by simpa using h2
    have d3 : decide (n > 4096) = true := d2
    clear hn
    go_enter Try.func8, Try.ntmps8
    go_wp2
    go_ret
    exact ⟨rfl, rfl⟩
set_option maxRecDepth 100000 in
theorem d_New_yes (n : Nat) (w : World) (base : Nat) (h1 : 1 ≤ n) (h2 : n ≤ 4096) (hb : base ≤ w.heap.size) :
    Calls Try.prog 8 #[.int .i64 (n : Int)] w fun e w' => ∃ D F, e = .returned (ptD D) ∧ DkF base w' D (newD n) F ∧ Below w.heap.size w w' ∧ ∀ i, F i → w.heap.size ≤ i := by
  have d1 : ¬ (n : Int) < 1 := by omega
  have d2 : ¬ (4096 : Int) < (n : Int) := by omega
  have hmk := fun w' => sec_make n h2 w'
  have hmm := @run_makeMap Try.prog
  have HL := Lib.hid (fun w => d_lasting w)
  have hfin : ∀ (D b m : Nat) (W : World), Below w.heap.size w W → w.heap.size ≤ D → w.heap.size ≤ b → w.heap.size ≤ m → Blk W D 48 (nwD b m n) → Blk W b 64 (zerS n) → W.heap[m]? = some (.map #[] 0) →
      ∃ F, DkF base W D (newD n) F ∧ Below w.heap.size w W ∧ ∀ i, F i → w.heap.size ≤ i := by
    intro D b m W hB q1 q2 q3 q4 q5 q6
    have hlen : (newD n).sec.length = n := by simp [newD]
    have hom : W.ownsMap Try.prog 3 hdrR m 0 (.map []) := ⟨#[], 0, q6, ⟨by simp, MapKept.stamped_empty 0, by simp⟩, Nat.le_refl _, rfl⟩
    have hk : DkW W base D b m 0 (.map []) noVZ none (newD n) := by
      refine ⟨by rw [hlen]; exact q4, q5, PenW.none hom, rfl, fun i => OwnR.nil _ _ _ _, (fun i j b h => by cases h), (fun i b h => by cases h), (fun L l e => by cases e), rfl, by omega, by omega, by omega⟩
    refine ⟨_, ⟨b, m, 0, _, _, _, hk, rfl⟩, hB, ?_⟩
    rintro i (rfl | rfl | rfl | e | ⟨j, e⟩)
    · exact q1
    · exact q2
    · exact q3
    · cases e
    · cases e
  have HFIN := Lib.hid hfin
  clear hfin
  go_enter Try.func8, Try.ntmps8
  go_wp2
  refine region_free mixed (by kernel_rfl) (nwF n) [] (fun i => if i = 6 then .pointer none else undef) rfl (NewBut w) (show Below _ _ _ from (Below.refl _ _).drew) (nwS w.heap.size n) ?mono ?step ?end_
  case mono => exact fun i v W W' h _ _ hb => nwS_mono _ _ i v W W' h hb
  case step =>
    intro u W i o ho hC hd
    have hr := Below.refl W.heap.size W
    rcases i with _ | _ | _ | _ | _ | _ | _ | i
    all_goals try (simp only [List.getElem?_cons_zero, List.getElem?_cons_succ, Option.some.injEq] at ho; subst ho)
    · unfold nwF; go_wp2_with fail
      exact ⟨_, rfl, rfl, hC, hr⟩
    · have h0 : u 0 = _ := hd ⟨0, .data⟩ (by simp) rfl
      unfold nwF; rw [h0]; go_wp2_with fail
      have hz := hC.size
      exact ⟨_, by simp [upd, h0], ⟨W.heap.size, hz, rfl, Blk.new' W _ _ rfl⟩, Below.alloc hC hz _, hr.alloc (Nat.le_refl _) _⟩
    · unfold nwF; go_wp2_with fail
      have hz := hC.size
      exact ⟨_, rfl, ⟨W.heap.size, hz, rfl, (MapKept.heap_alloc W _).1⟩, Below.alloc hC hz _, hr.alloc (Nat.le_refl _) _⟩
    · unfold nwF; go_wp2_with ((with_reducible refine (HL.out _).mono ?_); rintro e w5 ⟨rfl, rfl⟩)
      exact ⟨_, rfl, rfl, hC, hr⟩
    · obtain ⟨b, q1, h4, q3⟩ : ∃ b, w.heap.size ≤ b ∧ u 1 = .slice (some ⟨b, 0, none⟩) n n ∧ Blk W b 64 (zerS n) := hd ⟨1, .data⟩ (by simp) rfl
      obtain ⟨m, r1, h5, r3⟩ : ∃ m, w.heap.size ≤ m ∧ u 2 = .map (some m) ∧ W.heap[m]? = some (.map #[] 0) := hd ⟨2, .data⟩ (by simp) rfl
      have h6 : u 3 = pwV none := hd ⟨3, .data⟩ (by simp) rfl
      unfold pwV at h6
      unfold nwF; rw [h4, h5, h6]; go_wp2_with fail
      exact ⟨_, by simp [upd, h4, h5, h6, nwD, pwV], ⟨b, m, q1, r1, rfl, q3, r3⟩, hC, hr⟩
    · obtain ⟨b, m, q1, q2, h4, q4, q5⟩ : ∃ b m, w.heap.size ≤ b ∧ w.heap.size ≤ m ∧ u 4 = .agg (nwD b m n).toArray ∧ Blk W b 64 (zerS n) ∧ W.heap[m]? = some (.map #[] 0) := hd ⟨4, .data⟩ (by simp) rfl
      have hz := hC.size
      have hal := hr.alloc (Nat.le_refl _) (.cells (nwD b m n).toArray 48)
      have K1 := Lib.hid (Blk.new W 48 (nwD b m n))
      have K2 := Lib.hid (q4.below hal q4.lt)
      have K3 := Lib.hid (heap_below q5 hal)
      have K4 := Lib.hid (Below.alloc hC hz (.cells (nwD b m n).toArray 48))
      have K5 := Lib.hid hal
      unfold nwF; rw [h4]; unfold nwD pwV
      unfold nwD pwV at K1 K2 K3 K4 K5
      clear q4 q5 hal hC hr
      go_wp2_with fail
      exact ⟨_, by simp [upd, h4, nwD, pwV], ⟨W.heap.size, b, m, hz, q1, q2, rfl, K1.out, K2.out, K3.out⟩, K4.out, K5.out⟩
    · obtain ⟨D, b, m, q1, q2, q3, h5, q4, q5, q6⟩ : ∃ D b m, w.heap.size ≤ D ∧ w.heap.size ≤ b ∧ w.heap.size ≤ m ∧ u 5 = .pointer (some ⟨D, 0, none⟩) ∧ Blk W D 48 (nwD b m n) ∧ Blk W b 64 (zerS n) ∧ W.heap[m]? = some (.map #[] 0) := hd ⟨5, .data⟩ (by simp) rfl
      unfold nwF; rw [h5]; go_wp2_with fail
      exact ⟨_, by simp [upd, h5], ⟨D, b, m, q1, q2, q3, rfl, q4, q5, q6⟩, hC, hr⟩
    · simp at ho
  case end_ =>
    intro u W hC hS
    obtain ⟨D, b, m, q1, q2, q3, h6, q4, q5, q6⟩ : ∃ D b m, w.heap.size ≤ D ∧ w.heap.size ≤ b ∧ w.heap.size ≤ m ∧ u 6 = .pointer (some ⟨D, 0, none⟩) ∧ Blk W D 48 (nwD b m n) ∧ Blk W b 64 (zerS n) ∧ W.heap[m]? = some (.map #[] 0) := hS 6 (by decide)
    unfold nwF
    rw [h6]
    obtain ⟨F, f1, f2, f3⟩ := HFIN.out D b m W hC q1 q2 q3 q4 q5 q6
    clear hS q4 q5 q6
    go_wp2
    go_ret
    exact ⟨D, F, rfl, f1, f2, f3⟩
end Go.Proofs.Ytccplgicfbfjiaa
namespace Go.Proofs.Ytccplgicfbfjiaa
open Go.RowKit
set_option linter.unusedVariables false

theorem OwnR.rowApart {w : World} {base : Nat} {e : TypeId} {k : Nat} {v : Value} {rows : List (List Value)} (h : OwnR w base e k v rows) (r : Nat) (row : Array Value) (hne : ∀ b, v.ownBlock = some b → b ≠ r) : OwnR (w.setRow r row) base e k v rows := by
  obtain ⟨k0, k1, k2⟩ := h
  refine ⟨k0, k1, ?_⟩
  rcases k2 with h | ⟨g, cap, cur, hv, hg, hh, rest⟩
  · exact .inl h
  · refine .inr ⟨g, cap, cur, hv, hg, ?_, rest⟩
    have hB : Blk w g e cur.toList := by unfold Blk; exact hh
    have hB' := hB.rowOther (g := r) (hne g (by rw [hv]; rfl)) row
    unfold Blk at hB'
    exact hB'
/-! ### a slice literal of one row -/
theorem fold_row : ∀ (xs pre ys : List Value), ys.length = xs.length → (xs.zipIdx pre.length).foldl (fun (cs : Array Value) x => cs.setIfInBounds (0 + x.2) x.1) (pre ++ ys).toArray = (pre ++ xs).toArray
  | [], pre, ys, h => by
    obtain rfl := List.eq_nil_of_length_eq_zero h
    rfl
  | x :: xs, pre, [], h => by simp at h
  | x :: xs, pre, y :: ys, h => by
    have ih := fold_row xs (pre ++ [x]) ys (by simpa using h)
    rw [List.length_append, List.length_singleton] at ih
    rw [List.zipIdx_cons, List.foldl_cons]
    have e : ((pre ++ y :: ys).toArray.setIfInBounds (0 + pre.length) x) = ((pre ++ [x]) ++ ys).toArray := by
      rw [List.setIfInBounds_toArray, Nat.zero_add, List.set_append_right _ _ (Nat.le_refl _), Nat.sub_self]
      simp
    simp only [e]
    rw [ih]
    simp
theorem fill_row (k : Nat) (cells : Array Value) (r : List Value) (hr : r.length = k) (hc : cells.size = k) : Instr.fill (fun i => some (i * k, k)) cells [(0, .agg r.toArray)] = some r.toArray := by
  have hf := fold_row r [] cells.toList (by simp [hr, hc])
  have hv : (Value.agg r.toArray).cells = r.toArray := rfl
  simp only [Instr.fill, hv, List.size_toArray, hr, hc, Nat.zero_mul, Nat.zero_add]
  simp only [List.nil_append, List.length_nil, Nat.zero_add, Array.toArray_toList] at hf
  rw [← Array.foldl_toList, Array.toList_zipIdx, hf]
  simp
section
variable {P : Program} {ops : Array Oper} {rest : List Oper} {o : Oper} {a : Act} {w : World} {Q : Exit → Act → World → Prop}
/-- a slice literal of one row of k cells -/
theorem wpList_buildRow (hg : o.guard = none) (t e : TypeId) (parts : Array (Nat × Operand)) (ho : o.op = .buildSlice t 1 parts) (r : List Value) (ie : TypeInfo) (z : Value) (N : Nat) (hN : w.heap.size = N)
    (hu : P.underlying t = some (.slice e)) (hie : P.info? e = some ie) (hz : ie.zero = some z) (hk : ie.size = r.length) (h0 : 0 < r.length) (h1 : r.length ≤ 1000) (hp : (parts.map fun (i, x) => (i, a.eval x)).toList = [(0, .agg r.toArray)])
    (h : wpList P ops Q rest (a.put o.dst (.slice (some ⟨N, 0, none⟩) 1 1)) (w.alloc (.cells r.toArray e))) : wpList P ops Q (o :: rest) a w := by
  subst hN
  exact wpList_buildSlice hg t e 1 parts ho r.toArray ie z hu hie hz (by rw [hk]; omega) (by rw [hk]; omega) (by rw [hp]; exact fill_row _ _ r hk.symm (by rw [hk]; simp)) h
end
end Go.Proofs.Ytccplgicfbfjiaa
namespace Go.Proofs.Ytccplgicfbfjiaa
open Go.RowKit
set_option linter.unusedVariables false

theorem info_sec2 : ∃ i : TypeInfo, Try.prog.info? 64 = some i ∧ i.zero = some (.agg (rowB (zerN 32)).toArray) ∧ i.size = 32 ∧ i.bytes = 32 := info_parts2 info_sec
theorem zsec_cells : (Value.agg (rowB (zerN 32)).toArray).cells.size = 32 := by
  show (rowB (zerN 32)).toArray.size = 32
  rw [List.size_toArray, rowB_len, zerN_len]
/-- one more is pending -/
def penA (d : DiskM) (i : Nat) (s : List Nat) : DiskM := { d with pen := d.pen ++ [(i, s)] }
theorem penA_at (d : DiskM) (i : Nat) (s : List Nat) (j : Nat) : penD (penA d i s).pen j = if j = i then penD d.pen i ++ [s] else penD d.pen j := by
  show penD (d.pen ++ [(i, s)]) j = _
  rw [pen_app]
  split
  · rename_i e; subst e; rw [pen_same]
  · rename_i e; rw [pen_other s (fun e' => e e'.symm), List.append_nil]
section
variable {w : World} {base D S M k : Nat} {E : DataW Unit} {V : Nat → Value} {q : Option (Nat × Int)} {d : DiskM}
def wrC (w : World) (base D S M k B0 B1 B2 : Nat) (E : DataW Unit) (V : Nat → Value) (pv : Value) (d : DiskM) (i : Nat) (s : ByteArray) (b : Bool) (W : World) : Prop :=
  Blk W B0 26 [ptD D] ∧ Blk W B1 3 [.int .i64 (i : Int)] ∧ Blk W B2 9 [.string s] ∧ Blk W D 48 [.slice (some ⟨S, 0, none⟩) d.sec.length d.sec.length, .map (some M), pv] ∧
    PenW W M k E d.sec.length V d.pen ∧ w.grownBy W (V i).ownBlock ∧ (b = false → OwnR W base 64 32 (V i) (rowsB (penD d.pen i)))
def wrK (v1 : Value) (b : Bool) (W W' : World) : Prop := W.grownBy W' (match b with | true => none | false => v1.ownBlock)
def wrS (w : World) (base D M : Nat) (v1 : Value) (i : Nat) (s : ByteArray) (R : List Value) (rows : List (List Value)) (j : Nat) (v : Value) (W : World) : Prop :=
  match j with
  | 0 | 1 | 5 | 6 => v = .pointer (some ⟨D, 0, none⟩)
  | 2 | 7 => v = .pointer (some ⟨D, 1, none⟩)
  | 3 | 8 => v = .map (some M)
  | 4 | 9 => v = .int .i64 (i : Int)
  | 10 => v = v1
  | 11 => v = .string s
  | 12 => v = .agg R.toArray
  | 13 => ∃ y, w.heap.size ≤ y ∧ v = .slice (some ⟨y, 0, none⟩) 1 1 ∧ Blk W y 64 R
  | 14 => OwnR W base 64 32 v (rows ++ [R]) ∧ (v.ownBlock = v1.ownBlock ∨ ∃ g, v.ownBlock = some g ∧ w.heap.size ≤ g)
  | _ => True
theorem wrS_mono {w : World} {base D M : Nat} {v1 : Value} {i : Nat} {s : ByteArray} {R : List Value} {rows : List (List Value)} (hlo : ∀ b, v1.ownBlock = some b → b < w.heap.size) (b : Bool) (j : Nat) (v : Value) (W W' : World) (hb : j = 14 → b = true) (h : wrS w base D M v1 i s R rows j v W) (hk : wrK v1 b W W') : wrS w base D M v1 i s R rows j v W' := by
  match j with
  | 0 | 1 | 2 | 3 | 4 | 5 | 6 | 7 | 8 | 9 | 10 | 11 | 12 => exact h
  | 13 =>
    obtain ⟨y, h1, h2, h3⟩ := h
    refine ⟨y, h1, h2, h3.grownP hk fun e => ?_⟩
    cases b
    · have := hlo y e
      omega
    · cases e
  | 14 =>
    obtain rfl := hb rfl
    obtain ⟨h1, h2⟩ := h
    exact ⟨h1.grownO hk (fun _ _ e => by cases e), h2⟩
  | _ + 15 => trivial
theorem wrC_new {B0 B1 B2 : Nat} {pv : Value} {i : Nat} {s : ByteArray} {b : Bool} {W W' : World} (h : wrC w base D S M k B0 B1 B2 E V pv d i s b W) (hb : Below W.heap.size W W') : wrC w base D S M k B0 B1 B2 E V pv d i s b W' :=
  ⟨h.1.below hb h.1.lt, h.2.1.below hb h.2.1.lt, h.2.2.1.below hb h.2.2.1.lt, h.2.2.2.1.below hb h.2.2.2.1.lt, h.2.2.2.2.1.same (hb.block M h.2.2.2.2.1.map.lt), h.2.2.2.2.2.1.trans ((grown_below hb).but _), fun e => (h.2.2.2.2.2.2 e).keep hb⟩
theorem wrK_new {v1 : Value} {b : Bool} {W W' : World} (hb : Below W.heap.size W W') : wrK v1 b W W' := (grown_below hb).but _
/-- the disk, when one more is pending -/
theorem DkW.pended (h : DkW w base D S M k E V q d) {i : Nat} (hi : i < d.sec.length) {s : List Nat} {W W' : World} {g c : Nat} (hg : w.grownBy W (V i).ownBlock) (ho : OwnR W base 64 32 (.slice (some ⟨g, 0, none⟩) ((penD d.pen i).length + 1) c) (rowsB (penD d.pen i) ++ [rowB s]))
    (hl : (V i).ownBlock = some g ∨ w.heap.size ≤ g) (hm : W'.ownsMap Try.prog 3 hdrR M (k + 1) (E.put (kI i) (hdr (.slice (some ⟨g, 0, none⟩) ((penD d.pen i).length + 1) c)))) (hg' : W.grownBy W' (some M)) :
    DkW W' base D S M (k + 1) (E.put (kI i) (hdr (.slice (some ⟨g, 0, none⟩) ((penD d.pen i).length + 1) c))) (updV V i (.slice (some ⟨g, 0, none⟩) ((penD d.pen i).length + 1) c)) q (penA d i s) ∧
      Turn base w W' (foot D S M V q) (foot D S M (updV V i (.slice (some ⟨g, 0, none⟩) ((penD d.pen i).length + 1) c)) q) := by
  have hsz := hg.size
  have hst : ∀ b, b < w.heap.size → some b ≠ (V i).ownBlock → b ≠ M → W'.heap[b]? = w.heap[b]? := fun b hb h1 h2 => by
    rw [hg'.block b (by omega) (fun e => h2 (Option.some.inj e))]
    exact hg.block b hb h1
  have hgM : g ≠ M := by
    rcases hl with e | e
    · exact h.neVM e
    · have := h.pen.map.lt; omega
  have hgS : g ≠ S := by
    rcases hl with e | e
    · exact h.offS i g e
    · have := h.sec.lt; omega
  have hap : ∀ j, j ≠ i → ∀ b, (V j).ownBlock = some b → b ≠ g := fun j hj b e e2 => by
    rcases hl with e3 | e3
    · exact hj (h.apart j i g (by rw [← e2]; exact e) e3)
    · have := ((h.own j).lt b e).2; omega
  have hnew : (Value.slice (some ⟨g, 0, none⟩) ((penD d.pen i).length + 1) c).ownBlock = some g := rfl
  constructor
  · refine ⟨?_, ?_, h.pen.put hi hm, ?_, fun j => ?_, fun a b x ha hb => ?_, fun a b ha => ?_, fun L l e => ?_, ?_, h.hD, h.hS, h.hM⟩
    · exact (hst D h.blk.lt (fun e => h.neVD e.symm rfl) h.neDM).trans h.blk
    · exact (hst S h.sec.lt (fun e => h.offS i S e.symm rfl) h.neSM).trans h.sec
    · show k + 1 = (d.pen ++ [(i, s)]).length
      rw [List.length_append, h.len]; rfl
    · rw [penA_at]
      by_cases e : j = i
      · subst e
        rw [if_pos rfl, updV_same, rowsB_app]
        exact ho.grownO hg' (fun b hb e => by rw [hnew] at hb; cases hb; exact hgM (Option.some.inj e))
      · rw [if_neg e, updV_other _ _ e]
        exact DkW.ownSame (h.own j) fun b hb => hst b ((h.own j).lt b hb).2 (fun e2 => e (h.apart j i b hb e2.symm)) (h.neVM hb)
    · by_cases ea : a = i
      · by_cases eb : b = i
        · rw [ea, eb]
        · rw [ea, updV_same, hnew] at ha
          rw [updV_other _ _ eb] at hb
          exact absurd (Option.some.inj ha).symm (hap b eb x hb)
      · rw [updV_other _ _ ea] at ha
        by_cases eb : b = i
        · rw [eb, updV_same, hnew] at hb
          exact absurd (Option.some.inj hb).symm (hap a ea x ha)
        · rw [updV_other _ _ eb] at hb
          exact h.apart a b x ha hb
    · by_cases ea : a = i
      · rw [ea, updV_same, hnew] at ha
        rw [← Option.some.inj ha]; exact hgS
      · rw [updV_other _ _ ea] at ha
        exact h.offS a b ha
    · obtain ⟨h1, h2⟩ := h.left L l e
      exact ⟨(hst L h1.lt (fun e2 => h.neVL e e2.symm rfl) (h.neLM e)).trans h1, h2⟩
    · have := h.pw
      cases q with
      | none => exact this
      | some x => exact this
  · refine ⟨⟨hg'.os.trans hg.os, hg'.tape.trans hg.tape, hg'.output.trans hg.output, Nat.le_trans hg.size hg'.size, fun b hb => ?_⟩, fun b hb hF => ?_, fun b hF => ?_⟩
    · have h1 := h.blk.lt
      have h2 := h.hD
      exact hst b (by omega) (fun e => by have := ((h.own i).lt b e.symm).1; omega) (fun e => by have := h.hM; omega)
    · exact hst b hb (fun e => hF (DkW.footV i e.symm)) (fun e => hF (.inr (.inr (.inl e))))
    · rcases hF with e | e | e | e | ⟨j, e⟩
      · exact .inl (.inl e)
      · exact .inl (.inr (.inl e))
      · exact .inl (.inr (.inr (.inl e)))
      · exact .inl (.inr (.inr (.inr (.inl e))))
      · by_cases ej : j = i
        · rw [ej, updV_same, hnew] at e
          cases e
          exact hl.imp (fun e => DkW.footV i e) id
        · rw [updV_other _ _ ej] at e
          exact .inl (DkW.footV j e)
end
end Go.Proofs.Ytccplgicfbfjiaa
namespace Go.Proofs.Ytccplgicfbfjiaa
open Go.RowKit
set_option linter.unusedVariables false

variable {w : World} {base D S M k : Nat} {E : DataW Unit} {V : Nat → Value} {q : Option (Nat × Int)} {d : DiskM}
set_option maxRecDepth 100000 in
set_option maxHeartbeats 2000000 in
theorem d_Write1 (h : DkW w base D S M k E V q d) (hb : DkB d) (i : Nat) (hi : i < d.sec.length) (s : ByteArray) (hs : s.size = 32) (B0 B1 B2 : Nat)
    (b0 : Blk w B0 26 [ptD D]) (b1 : Blk w B1 3 [.int .i64 (i : Int)]) (b2 : Blk w B2 9 [.string s]) :
    Calls Try.prog 55 #[.pointer (some ⟨B0, 0, none⟩), .pointer (some ⟨B1, 0, none⟩), .pointer (some ⟨B2, 0, none⟩)] w fun e w' => e = .returned (.tuple #[]) ∧
      ∃ k' E' V', DkW w' base D S M k' E' V' q (penA d i (sl s)) ∧ Turn base w w' (foot D S M V q) (foot D S M V' q) := by
  obtain ⟨i0, hi0, hz0, hz1, hz2⟩ := info_sec2
  have hsec := hb.sec
  have hpen := hb.pen
  have hi2 : i ≤ 100000 := by omega
  have hpl : (penD d.pen i).length ≤ 100000 := Nat.le_trans (List.length_filterMap_le _ _) hpen
  obtain ⟨pv, hpv⟩ : ∃ pv, pwV q = pv := ⟨_, rfl⟩
  obtain ⟨R, hR⟩ : ∃ R, rowB (sl s) = R := ⟨_, rfl⟩
  have hRl : R.length = 32 := by rw [← hR, rowB_len, sl_len, hs]
  have hSO := fun wx => d_sectorOf s hs wx
  rw [hR] at hSO
  have hR1 : ∀ r ∈ [R], ∀ z ∈ r, z.oneCell' = true := fun r hr z hz => by
    rw [List.mem_singleton.1 hr, ← hR] at hz
    have := rowB_one (sl s)
    rw [Array.all_eq_true_iff_forall_mem] at this
    exact this z (by simpa using hz)
  have hk : k ≤ 100000 := by rw [h.len]; exact hpen
  have hblk := h.blk
  rw [hpv] at hblk
  have hlo := (h.own i).lt
  have hn0 := (h.own i).ne b0 (by decide)
  have hn1 := (h.own i).ne b1 (by decide)
  have hn2 := (h.own i).ne b2 (by decide)
  have hnD := (h.own i).ne h.blk (by decide)
  have hnM : ∀ b, (V i).ownBlock = some b → b ≠ M := fun b e => h.neVM e
  have hbase : base ≤ w.heap.size := by have := h.blk.lt; have := h.hD; omega
  have hrl : (rowsB (penD d.pen i)).length = (penD d.pen i).length := rowsB_len _
  have hC0 : wrC w base D S M k B0 B1 B2 E V pv d i s false w := ⟨b0, b1, b2, hblk, h.pen, ⟨rfl, rfl, rfl, Nat.le_refl _, fun _ _ _ => rfl⟩, fun _ => h.own i⟩
  have hC0' : wrC w base D S M k B0 B1 B2 E V pv d i s false w.drew := wrC_new hC0 (Below.refl _ _).drew
  have H := Lib.hid h
  have HC0 := Lib.hid hC0'
  have HSO := Lib.hid hSO
  have HR1 := Lib.hid hR1
  have HRl := Lib.hid hRl
  have HLO := Lib.hid hlo
  have HN0 := Lib.hid hn0
  have HN1 := Lib.hid hn1
  have HN2 := Lib.hid hn2
  have HND := Lib.hid hnD
  have HNM := Lib.hid hnM
  have HBA := Lib.hid hbase
  have HRW := Lib.hid hrl
  have HPL := Lib.hid hpl
  have HRE := Lib.hid hR
  have HK := Lib.hid hk
  have HI2 := Lib.hid hi2
  have HI := Lib.hid hi
  have c0 := b0.cell 0
  have c1 := b1.cell 0
  have c2 := b2.cell 0
  simp only [List.getElem?_cons_zero] at c0 c1 c2
  clear h hb hs hsec hpen hi2 hpl hSO hR1 hRl hlo hn0 hn1 hn2 hnD hnM hbase hrl hC0 hC0' hR hk hi hblk b0 b1 b2 hpv c0 c1 c2
  go_enter Try.func55, Try.ntmps55
  refine region_mix 14 15 (by decide) mixed (by kernel_rfl) (by kernel_rfl) (fun u => #[_, _, _, u 0, u 1, u 2, u 3, u 4, u 5, u 6, u 7, u 8, u 9, u 10, u 11, u 12, u 13, u 14]) [] (fun _ => undef) rfl
        (wrC w base D S M k B0 B1 B2 E V pv d i s) HC0.out (wrK (V i)) (wrS w base D M (V i) i s R (rowsB (penD d.pen i))) ?mono ?step ?one ?last
  case mono => exact wrS_mono fun b e => (HLO.out b e).2
  case step =>
    intro b u W j o hj hjk _ ho hC hd
    have hr : wrK (V i) b W W := by cases b <;> exact ⟨rfl, rfl, rfl, Nat.le_refl _, fun _ _ _ => rfl⟩
    have c0 := hC.1.cell 0
    have c1 := hC.2.1.cell 0
    have c2 := hC.2.2.1.cell 0
    have cD := hC.2.2.2.1.cell 1
    have hL := hC.2.2.2.2.1.look HI2.out
    simp only [List.getElem?_cons_zero, List.getElem?_cons_succ] at c0 c1 c2 cD
    unfold ptD at c0
    have HC := Lib.hid hC
    have HR := Lib.hid hr
    clear hC hr
    rcases j with _ | _ | _ | _ | _ | _ | _ | _ | _ | _ | _ | _ | _ | _ | _ | _ | j
    all_goals try (simp only [List.getElem?_cons_zero, List.getElem?_cons_succ, Option.some.injEq] at ho; subst ho)
    · go_wp2_with fail
      exact ⟨_, rfl, rfl, HC.out, HR.out⟩
    · have h1 : u 0 = .pointer (some ⟨D, 0, none⟩) := hd ⟨0, .data⟩ (by simp) rfl
      rw [h1]; go_wp2_with fail
      exact ⟨_, by simp [upd, h1], rfl, HC.out, HR.out⟩
    · have h1 : u 1 = .pointer (some ⟨D, 0, none⟩) := hd ⟨1, .data⟩ (by simp) rfl
      rw [h1]; go_wp2_with fail
      exact ⟨_, by simp [upd, h1], rfl, HC.out, HR.out⟩
    · have h1 : u 2 = .pointer (some ⟨D, 1, none⟩) := hd ⟨2, .data⟩ (by simp) rfl
      rw [h1]; go_wp2_with fail
      exact ⟨_, by simp [upd, h1], rfl, HC.out, HR.out⟩
    · go_wp2_with fail
      exact ⟨_, rfl, rfl, HC.out, HR.out⟩
    · go_wp2_with fail
      exact ⟨_, rfl, rfl, HC.out, HR.out⟩
    · have h1 : u 5 = .pointer (some ⟨D, 0, none⟩) := hd ⟨5, .data⟩ (by simp) rfl
      rw [h1]; go_wp2_with fail
      exact ⟨_, by simp [upd, h1], rfl, HC.out, HR.out⟩
    · have h1 : u 6 = .pointer (some ⟨D, 0, none⟩) := hd ⟨6, .data⟩ (by simp) rfl
      rw [h1]; go_wp2_with fail
      exact ⟨_, by simp [upd, h1], rfl, HC.out, HR.out⟩
    · have h1 : u 7 = .pointer (some ⟨D, 1, none⟩) := hd ⟨7, .data⟩ (by simp) rfl
      rw [h1]; go_wp2_with fail
      exact ⟨_, by simp [upd, h1], rfl, HC.out, HR.out⟩
    · go_wp2_with fail
      exact ⟨_, rfl, rfl, HC.out, HR.out⟩
    · have h1 : u 8 = .map (some M) := hd ⟨8, .data⟩ (by simp) rfl
      have h2 : u 9 = .int .i64 (i : Int) := hd ⟨9, .data⟩ (by simp) rfl
      rw [h1, h2]; go_wp2_with fail
      exact ⟨_, by simp [upd, h1, h2], rfl, HC.out, HR.out⟩
    · go_wp2_with fail
      exact ⟨_, rfl, rfl, HC.out, HR.out⟩
    · have h1 : u 11 = .string s := hd ⟨11, .data⟩ (by simp) rfl
      rw [h1]; go_wp2_with fail
      (with_reducible refine (HSO.out W).mono ?_)
      rintro e w3 ⟨rfl, hb3⟩
      go_wp2_with fail
      exact ⟨_, by simp [upd, h1], rfl, wrC_new HC.out hb3, wrK_new hb3⟩
    · have h1 : u 12 = .agg R.toArray := hd ⟨12, .data⟩ (by simp) rfl
      have hz := HC.out.2.2.2.2.2.1.size
      have hbl := (Below.refl W.heap.size W).alloc (Nat.le_refl _) (.cells R.toArray 64)
      have K1 := Lib.hid (wrC_new HC.out hbl)
      have K2 : Hid (wrK (V i) b W (W.alloc (.cells R.toArray 64))) := Lib.hid (wrK_new hbl)
      have K3 := Lib.hid (Blk.new W 64 R)
      clear hbl
      rw [h1]; go_wp2_with (refine wpList_buildRow rfl 42 64 _ rfl R i0 (.agg (rowB (zerN 32)).toArray) W.heap.size rfl Try.underlying42 hi0 hz0 (by rw [hz1, HRl.out]) (by rw [HRl.out]; decide) (by rw [HRl.out]; decide) (by simp only [List.map_toArray, List.map_cons, List.map_nil]; rfl) ?_)
      exact ⟨_, by simp [upd, h1], ⟨W.heap.size, hz, rfl, K3.out⟩, K1.out, K2.out⟩
    · omega
    · omega
    · omega
  case one =>
    intro u W o ho hC hd
    simp only [List.getElem?_cons_zero, List.getElem?_cons_succ, Option.some.injEq] at ho
    subst ho
    have h4 : u 10 = V i := hd ⟨10, .data⟩ (by simp) rfl
    obtain ⟨y, hy, h8, hY⟩ : ∃ y, w.heap.size ≤ y ∧ u 13 = .slice (some ⟨y, 0, none⟩) 1 1 ∧ Blk W y 64 R := hd ⟨13, .data⟩ (by simp) rfl
    have hO := hC.2.2.2.2.2.2 rfl
    have hnw := sl_one hY
    rw [HRl.out] at hnw
    have hlen : (rowsB (penD d.pen i)).length + [R].length ≤ maxLen := by rw [HRW.out, List.length_singleton]; have := HPL.out; unfold maxLen; omega
    have hby : ((rowsB (penD d.pen i)).length + [R].length) * 32 ≤ 140737488355328 := by rw [HRW.out, List.length_singleton]; have := HPL.out; omega
    have hbase : base ≤ W.heap.size := Nat.le_trans HBA.out hC.2.2.2.2.2.1.size
    have hfin : ∀ v' w5, OwnR w5 base 64 32 v' (rowsB (penD d.pen i) ++ [R]) → W.grownBy w5 (V i).ownBlock → (v'.ownBlock = (V i).ownBlock ∨ v'.ownBlock = some W.heap.size) → wrS w base D M (V i) i s R (rowsB (penD d.pen i)) 14 v' w5 ∧ wrC w base D S M k B0 B1 B2 E V pv d i s true w5 ∧ wrK (V i) false W w5 := fun v' w5 q1 q2 q3 =>
      ⟨⟨q1, q3.imp id (fun e => ⟨_, e, hC.2.2.2.2.2.1.size⟩)⟩, ⟨hC.1.grownP q2 (fun e => HN0.out B0 e rfl), hC.2.1.grownP q2 (fun e => HN1.out B1 e rfl), hC.2.2.1.grownP q2 (fun e => HN2.out B2 e rfl), hC.2.2.2.1.grownP q2 (fun e => HND.out D e rfl),
        hC.2.2.2.2.1.kept q2 (fun e => HNM.out M e.symm rfl), hC.2.2.2.2.2.1.trans q2, fun e => by cases e⟩, q2⟩
    have HFIN := Lib.hid hfin
    have HO := Lib.hid hO
    have HNW := Lib.hid hnw
    have HLEN := Lib.hid hlen
    have HBY := Lib.hid hby
    have HBW := Lib.hid hbase
    clear hO hnw hlen hby hbase hY hC hd hfin
    rw [h4, h8]
    go_wp2_with (first | (refine wpList_append_rows rfl _ _ 42 rfl base 64 i0 (.agg (rowB (zerN 32)).toArray) 32 32 Try.underlying42 hi0 hz0 hz1 hz2 zsec_cells (by decide) (V i) (rowsB (penD d.pen i)) rfl HO.out (.slice (some ⟨y, 0, none⟩) 1 1) [R] rfl HNW.out HR1.out HLEN.out HBY.out HBW.out (.inr ⟨_, _, _, rfl⟩) ?_; intro v' w5 ho5 hg5 hv5))
    obtain ⟨q1, q2, q3⟩ := HFIN.out v' w5 ho5 hg5 hv5
    exact ⟨v', by simp [upd, h4, h8]; rfl, q1, q2, q3⟩
  case last =>
    intro u W o ho hC hS
    simp only [List.getElem?_cons_zero, List.getElem?_cons_succ, Option.some.injEq] at ho
    subst ho
    have h3 : u 3 = .map (some M) := hS 3 (by decide)
    have h4 : u 4 = .int .i64 (i : Int) := hS 4 (by decide)
    obtain ⟨h14, hv14⟩ : OwnR W base 64 32 (u 14) (rowsB (penD d.pen i) ++ [R]) ∧ ((u 14).ownBlock = (V i).ownBlock ∨ ∃ g, (u 14).ownBlock = some g ∧ w.heap.size ≤ g) := hS 14 (by decide)
    obtain ⟨g, c, rest, hv, hg, _⟩ := h14.blkR (by rw [List.length_append]; simp)
    rw [List.length_append, HRW.out, List.length_singleton] at hv
    rw [hv] at h14 hv14
    have hgl : (V i).ownBlock = some g ∨ w.heap.size ≤ g := by
      rcases hv14 with e | ⟨g', e, hg'⟩
      · exact .inl e.symm
      · cases e; exact .inr hg'
    have hfin := fun W' hm hg' => H.out.pended HI.out (s := sl s) (W' := W') hC.2.2.2.2.2.1 (by rw [HRE.out]; exact h14) hgl hm hg'
    have HFIN := Lib.hid hfin
    have HM := Lib.hid hC.2.2.2.2.1.map
    have hkm : k < maxLen := by have := HK.out; unfold maxLen; omega
    have hkey := Lib.hid (key_atZ HI2.out)
    clear hS hC h14 hv14 hgl hfin
    rw [h3, h4, hv]
    go_wp2_with (first | (at_mapUpdate; refine wpList_mapUpdate_own _ rfl _ _ _ 43 rfl 3 42 law_int Try.underlying43 hdrR M k _ rfl HM.out hkm _ _ _ rfl rfl hkey.out _ [] (hdr_slice g ((penD d.pen i).length + 1) c) ?_; intro w8 hown8 hg8))
    go_end0
    obtain ⟨f1, f2⟩ := HFIN.out w8 hown8 hg8
    exact ⟨rfl, _, _, _, f1, f2⟩
end Go.Proofs.Ytccplgicfbfjiaa
namespace Go.Proofs.Ytccplgicfbfjiaa
open Go.RowKit
set_option linter.unusedVariables false

def tickD (d : DiskM) : DiskM := { d with rest := d.rest - 1 }
variable {w : World} {base D S M k : Nat} {E : DataW Unit} {V : Nat → Value} {q : Option (Nat × Int)} {d : DiskM}
/-- power that lasts, behind a step -/
theorem DkW.tickN (h : DkW w base D S M k E V none d) : DkW w base D S M k E V none (tickD d) := ⟨h.blk, h.sec, h.pen, h.len, h.own, h.apart, h.offS, h.left, h.pw, h.hD, h.hS, h.hM⟩
set_option maxRecDepth 100000 in
theorem d_stepW_off (h : DkW w base D S M k E V q d) (ho : offD d = true) (B0 B1 B2 : Nat) :
    Calls Try.prog 54 #[ptD D, .func (.func 55) #[] #[.pointer (some ⟨B0, 0, none⟩), .pointer (some ⟨B1, 0, none⟩), .pointer (some ⟨B2, 0, none⟩)]] w fun e w' => e = .returned (.int .i64 130) ∧ DkW w' base D S M k E V q d ∧ Turn base w w' (foot D S M V q) (foot D S M V q) := by
  have hw : base ≤ w.heap.size := by have := h.blk.lt; have := h.hD; omega
  have HO := Lib.hid (d_isOn h hw false ho)
  unfold ptD at HO ⊢
  clear h ho hw
  go_enter Try.func54, Try.ntmps54
  go_wp2_with (go_at_call 61; (with_reducible refine HO.out.mono ?_); rintro e w1 ⟨rfl, h1, t1⟩)
  go_ret
  exact ⟨rfl, h1, t1⟩
set_option maxRecDepth 100000 in
theorem d_stepW_on_some {L : Nat} {l : Int} (h : DkW w base D S M k E V (some (L, l)) d) (ho : offD d = false) (d1 : DiskM) (B0 B1 B2 : Nat)
    (hdo : ∀ w1, DkW w1 base D S M k E V (some (L, l)) d → Turn base w w1 (foot D S M V (some (L, l))) (foot D S M V (some (L, l))) → Calls Try.prog 55 #[.pointer (some ⟨B0, 0, none⟩), .pointer (some ⟨B1, 0, none⟩), .pointer (some ⟨B2, 0, none⟩)] w1 fun e w2 => e = .returned (.tuple #[]) ∧
      ∃ k' E' V', DkW w2 base D S M k' E' V' (some (L, l)) d1 ∧ Turn base w1 w2 (foot D S M V (some (L, l))) (foot D S M V' (some (L, l)))) (hc : d1.cut = d.cut) (hr : d1.rest = d.rest) :
    Calls Try.prog 54 #[ptD D, .func (.func 55) #[] #[.pointer (some ⟨B0, 0, none⟩), .pointer (some ⟨B1, 0, none⟩), .pointer (some ⟨B2, 0, none⟩)]] w fun e w' => e = .returned (.int .i64 0) ∧
      ∃ k' E' V' q', DkW w' base D S M k' E' V' q' (tickD d1) ∧ Turn base w w' (foot D S M V (some (L, l))) (foot D S M V' q') := by
  have hw : base ≤ w.heap.size := by have := h.blk.lt; have := h.hD; omega
  have HO := Lib.hid (d_isOn h hw true ho)
  have HDO := Lib.hid hdo
  unfold ptD at HO ⊢
  obtain ⟨hcut, h1, h2, h3⟩ := h.pw
  have hl := i64_of h3
  have hpos : 0 < l := by
    unfold offD at ho
    rw [hcut, Bool.true_and] at ho
    have : ¬ d.rest ≤ 0 := by simpa using ho
    exact h1.2 (by omega)
  have hrest := h2 hpos
  obtain ⟨b, hbb⟩ : ∃ b, decide (0 < l - 1) = b := ⟨_, rfl⟩
  have hm : IntKind.i64.wrap (l - 1) = l - 1 := wrap_i64I (by omega) (by omega)
  have hpw : pwIs (tickD d1) (some (L, l - 1)) := by
    refine ⟨hc.trans hcut, ?_, fun e => ?_, wf_i64I (by show _ ≤ l - 1; omega) (by show l - 1 ≤ _; omega)⟩
    · show 0 < l - 1 ↔ 0 < d1.rest - 1
      rw [hr]; omega
    · show l - 1 = d1.rest - 1
      rw [hr]; omega
  have HPW := Lib.hid hpw
  have HM := Lib.hid hm
  have HB := Lib.hid hbb
  clear h ho hdo hc hr hw hcut h1 h2 h3 hl hpos hrest hm hpw hbb
  go_enter Try.func54, Try.ntmps54
  go_wp2_with fail
  (with_reducible refine HO.out.mono ?_)
  rintro e w1 ⟨rfl, h1, t1⟩
  have H1 := Lib.hid h1
  have T1 := Lib.hid t1
  clear h1 t1
  go_wp2_with fail
  (with_reducible refine (HDO.out w1 H1.out T1.out).mono ?_)
  rintro e w2 ⟨rfl, k', E', V', h2, t2⟩
  have c2 := h2.c2
  unfold pwV at c2
  have HG := Lib.hid (d_going1 1 l L b (l - 1) w2 (h2.left L l rfl).1 HM.out HB.out)
  have hs := h2.setLeft (l' := l - 1) (d' := tickD d1) rfl rfl HPW.out
  have HS := Lib.hid hs
  have T2 := Lib.hid ((T1.out.trans t2).trans hs.2)
  clear h2 t2 hs
  go_wp2_with fail
  (with_reducible refine HG.out.mono ?_)
  rintro e w3 ⟨rfl, rfl⟩
  go_wp2
  go_ret
  exact ⟨rfl, _, _, _, _, HS.out.1, T2.out⟩
set_option maxRecDepth 100000 in
theorem d_stepW_on (h : DkW w base D S M k E V q d) (ho : offD d = false) (d1 : DiskM) (B0 B1 B2 : Nat)
    (hdo : ∀ w1, DkW w1 base D S M k E V q d → Turn base w w1 (foot D S M V q) (foot D S M V q) → Calls Try.prog 55 #[.pointer (some ⟨B0, 0, none⟩), .pointer (some ⟨B1, 0, none⟩), .pointer (some ⟨B2, 0, none⟩)] w1 fun e w2 => e = .returned (.tuple #[]) ∧
      ∃ k' E' V', DkW w2 base D S M k' E' V' q d1 ∧ Turn base w1 w2 (foot D S M V q) (foot D S M V' q)) (hc : d1.cut = d.cut) (hr : d1.rest = d.rest) :
    Calls Try.prog 54 #[ptD D, .func (.func 55) #[] #[.pointer (some ⟨B0, 0, none⟩), .pointer (some ⟨B1, 0, none⟩), .pointer (some ⟨B2, 0, none⟩)]] w fun e w' => e = .returned (.int .i64 0) ∧
      ∃ k' E' V' q', DkW w' base D S M k' E' V' q' (tickD d1) ∧ Turn base w w' (foot D S M V q) (foot D S M V' q') := by
  have hw : base ≤ w.heap.size := by have := h.blk.lt; have := h.hD; omega
  have HO := Lib.hid (d_isOn h hw true ho)
  have HDO := Lib.hid hdo
  unfold ptD at HO ⊢
  cases q with
  | none =>
    have HP := Lib.hid (fun n w => d_lasting1 n w)
    clear h ho hdo hc hr hw
    go_enter Try.func54, Try.ntmps54
    go_wp2_with fail
    (with_reducible refine HO.out.mono ?_)
    rintro e w1 ⟨rfl, h1, t1⟩
    have H1 := Lib.hid h1
    have T1 := Lib.hid t1
    clear h1 t1
    go_wp2_with fail
    (with_reducible refine (HDO.out w1 H1.out T1.out).mono ?_)
    rintro e w2 ⟨rfl, k', E', V', h2, t2⟩
    have c2 := h2.c2
    unfold pwV at c2
    have H2 := Lib.hid h2.tickN
    have T2 := Lib.hid (T1.out.trans t2)
    clear h2 t2
    go_wp2_with fail
    (with_reducible refine (HP.out _ _).mono ?_)
    rintro e w3 ⟨rfl, rfl⟩
    go_wp2
    go_ret
    exact ⟨rfl, _, _, _, _, H2.out, T2.out⟩
  | some Ll =>
    exact d_stepW_on_some h ho d1 B0 B1 B2 hdo hc hr
set_option maxRecDepth 100000 in
theorem d_stepS_off (h : DkW w base D S M k E V q d) (ho : offD d = true) :
    Calls Try.prog 54 #[ptD D, .func (.func 57) #[.pointer (some ⟨D, 0, none⟩)] #[]] w fun e w' => e = .returned (.int .i64 130) ∧ DkW w' base D S M k E V q d ∧ Turn base w w' (foot D S M V q) (foot D S M V q) := by
  have hw : base ≤ w.heap.size := by have := h.blk.lt; have := h.hD; omega
  have HO := Lib.hid (d_isOn h hw false ho)
  unfold ptD at HO ⊢
  clear h ho hw
  go_enter Try.func54, Try.ntmps54
  go_wp2_with (go_at_call 61; (with_reducible refine HO.out.mono ?_); rintro e w1 ⟨rfl, h1, t1⟩)
  go_ret
  exact ⟨rfl, h1, t1⟩
set_option maxRecDepth 100000 in
theorem d_stepS_on_some {L : Nat} {l : Int} (h : DkW w base D S M k E V (some (L, l)) d) (ho : offD d = false) (d1 : DiskM)
    (hdo : ∀ w1, DkW w1 base D S M k E V (some (L, l)) d → Turn base w w1 (foot D S M V (some (L, l))) (foot D S M V (some (L, l))) → Calls Try.prog 57 #[.pointer (some ⟨D, 0, none⟩)] w1 fun e w2 => e = .returned (.tuple #[]) ∧
      ∃ k' E' V', DkW w2 base D S M k' E' V' (some (L, l)) d1 ∧ Turn base w1 w2 (foot D S M V (some (L, l))) (foot D S M V' (some (L, l)))) (hc : d1.cut = d.cut) (hr : d1.rest = d.rest) :
    Calls Try.prog 54 #[ptD D, .func (.func 57) #[.pointer (some ⟨D, 0, none⟩)] #[]] w fun e w' => e = .returned (.int .i64 0) ∧
      ∃ k' E' V' q', DkW w' base D S M k' E' V' q' (tickD d1) ∧ Turn base w w' (foot D S M V (some (L, l))) (foot D S M V' q') := by
  have hw : base ≤ w.heap.size := by have := h.blk.lt; have := h.hD; omega
  have HO := Lib.hid (d_isOn h hw true ho)
  have HDO := Lib.hid hdo
  unfold ptD at HO ⊢
  obtain ⟨hcut, h1, h2, h3⟩ := h.pw
  have hl := i64_of h3
  have hpos : 0 < l := by
    unfold offD at ho
    rw [hcut, Bool.true_and] at ho
    have : ¬ d.rest ≤ 0 := by simpa using ho
    exact h1.2 (by omega)
  have hrest := h2 hpos
  obtain ⟨b, hbb⟩ : ∃ b, decide (0 < l - 1) = b := ⟨_, rfl⟩
  have hm : IntKind.i64.wrap (l - 1) = l - 1 := wrap_i64I (by omega) (by omega)
  have hpw : pwIs (tickD d1) (some (L, l - 1)) := by
    refine ⟨hc.trans hcut, ?_, fun e => ?_, wf_i64I (by show _ ≤ l - 1; omega) (by show l - 1 ≤ _; omega)⟩
    · show 0 < l - 1 ↔ 0 < d1.rest - 1
      rw [hr]; omega
    · show l - 1 = d1.rest - 1
      rw [hr]; omega
  have HPW := Lib.hid hpw
  have HM := Lib.hid hm
  have HB := Lib.hid hbb
  clear h ho hdo hc hr hw hcut h1 h2 h3 hl hpos hrest hm hpw hbb
  go_enter Try.func54, Try.ntmps54
  go_wp2_with fail
  (with_reducible refine HO.out.mono ?_)
  rintro e w1 ⟨rfl, h1, t1⟩
  have H1 := Lib.hid h1
  have T1 := Lib.hid t1
  clear h1 t1
  go_wp2_with fail
  (with_reducible refine (HDO.out w1 H1.out T1.out).mono ?_)
  rintro e w2 ⟨rfl, k', E', V', h2, t2⟩
  have c2 := h2.c2
  unfold pwV at c2
  have HG := Lib.hid (d_going1 1 l L b (l - 1) w2 (h2.left L l rfl).1 HM.out HB.out)
  have hs := h2.setLeft (l' := l - 1) (d' := tickD d1) rfl rfl HPW.out
  have HS := Lib.hid hs
  have T2 := Lib.hid ((T1.out.trans t2).trans hs.2)
  clear h2 t2 hs
  go_wp2_with fail
  (with_reducible refine HG.out.mono ?_)
  rintro e w3 ⟨rfl, rfl⟩
  go_wp2
  go_ret
  exact ⟨rfl, _, _, _, _, HS.out.1, T2.out⟩
set_option maxRecDepth 100000 in
theorem d_stepS_on (h : DkW w base D S M k E V q d) (ho : offD d = false) (d1 : DiskM)
    (hdo : ∀ w1, DkW w1 base D S M k E V q d → Turn base w w1 (foot D S M V q) (foot D S M V q) → Calls Try.prog 57 #[.pointer (some ⟨D, 0, none⟩)] w1 fun e w2 => e = .returned (.tuple #[]) ∧
      ∃ k' E' V', DkW w2 base D S M k' E' V' q d1 ∧ Turn base w1 w2 (foot D S M V q) (foot D S M V' q)) (hc : d1.cut = d.cut) (hr : d1.rest = d.rest) :
    Calls Try.prog 54 #[ptD D, .func (.func 57) #[.pointer (some ⟨D, 0, none⟩)] #[]] w fun e w' => e = .returned (.int .i64 0) ∧
      ∃ k' E' V' q', DkW w' base D S M k' E' V' q' (tickD d1) ∧ Turn base w w' (foot D S M V q) (foot D S M V' q') := by
  have hw : base ≤ w.heap.size := by have := h.blk.lt; have := h.hD; omega
  have HO := Lib.hid (d_isOn h hw true ho)
  have HDO := Lib.hid hdo
  unfold ptD at HO ⊢
  cases q with
  | none =>
    have HP := Lib.hid (fun n w => d_lasting1 n w)
    clear h ho hdo hc hr hw
    go_enter Try.func54, Try.ntmps54
    go_wp2_with fail
    (with_reducible refine HO.out.mono ?_)
    rintro e w1 ⟨rfl, h1, t1⟩
    have H1 := Lib.hid h1
    have T1 := Lib.hid t1
    clear h1 t1
    go_wp2_with fail
    (with_reducible refine (HDO.out w1 H1.out T1.out).mono ?_)
    rintro e w2 ⟨rfl, k', E', V', h2, t2⟩
    have c2 := h2.c2
    unfold pwV at c2
    have H2 := Lib.hid h2.tickN
    have T2 := Lib.hid (T1.out.trans t2)
    clear h2 t2
    go_wp2_with fail
    (with_reducible refine (HP.out _ _).mono ?_)
    rintro e w3 ⟨rfl, rfl⟩
    go_wp2
    go_ret
    exact ⟨rfl, _, _, _, _, H2.out, T2.out⟩
  | some Ll =>
    exact d_stepS_on_some h ho d1 hdo hc hr
set_option maxRecDepth 100000 in
/-- Write -/
theorem d_Write (h : DkW w base D S M k E V q d) (hb : DkB d) (i : Int) (hi : (Lit.int .i64 i).wf = true) (s : ByteArray) (e : Nat) (d' : DiskM) (he : wrE d i s.size = e) (hd : wrD d i (sl s) = d') :
    Calls Try.prog 38 #[ptD D, .int .i64 i, .string s] w fun x w' => x = .returned (.int .i64 (e : Int)) ∧ ∃ k' E' V' q', DkW w' base D S M k' E' V' q' d' ∧ Turn base w w' (foot D S M V q) (foot D S M V' q') := by
  have hlen := hb.sec
  obtain ⟨w1, hw1⟩ : ∃ w1, ((w.alloc (.cells #[ptD D] 26)).alloc (.cells #[.int .i64 i] 3)).alloc (.cells #[.string s] 9) = w1 := ⟨_, rfl⟩
  have hb1 : Below w.heap.size w w1 := by rw [← hw1]; exact (((Below.refl w.heap.size w).alloc (Nat.le_refl _) _).alloc (by simp) _).alloc (by simp; omega) _
  obtain ⟨h1, t1⟩ := h.turn hb1
  have b0 : Blk w1 w.heap.size 26 [ptD D] := by rw [← hw1]; exact ((Blk.new' w _ _ rfl).alloc _).alloc _
  have b1 : Blk w1 (w.heap.size + 1) 3 [.int .i64 i] := by rw [← hw1]; exact (Blk.new2 w _ _ _ rfl).alloc _
  have b2 : Blk w1 (w.heap.size + 2) 9 [.string s] := by rw [← hw1]; exact Blk.newAt _ _ (by simp) _ _ rfl
  have c0 := b0.cell 0
  have c1 := b1.cell 0
  have c2 := b2.cell 0
  simp only [List.getElem?_cons_zero] at c0 c1 c2
  have hnf : ∀ j, foot D S M V q j → j < w.heap.size := fun j hj => (h.lt j hj).2
  unfold wrD at hd
  rw [sl_len, he] at hd
  unfold wrE at he
  unfold ptD at c0 hw1 ⊢
  by_cases hin : inD d i
  · rw [if_neg (by simpa using hin)] at he
    obtain ⟨n, rfl⟩ : ∃ n : Nat, i = (n : Int) := ⟨i.toNat, by unfold inD at hin; omega⟩
    have hn : n < d.sec.length := by unfold inD at hin; omega
    have HH := Lib.hid (d_has h1 (n : Int) true (.inl ⟨rfl, hin⟩) hlen)
    unfold ptD at HH
    by_cases h32 : s.size = 32
    · rw [if_neg (by simpa using h32)] at he
      have hsz : (s.size : Int) = 32 := by omega
      have g1 : ((s.size : Int) != 32) = false := by rw [hsz]; rfl
      cases ho : offD d with
      | true =>
        rw [ho, if_pos rfl] at he
        subst he
        rw [if_neg (by decide)] at hd
        subst hd
        have HS := Lib.hid (d_stepW_off h1 ho w.heap.size (w.heap.size + 1) (w.heap.size + 2))
        unfold ptD at HS
        have T1 := Lib.hid t1
        clear h hb h1 t1 b0 b1 b2 hnf hin hn h32 ho hlen hb1 hsz
        subst hw1
        go_enter Try.func38, Try.ntmps38
        go_wp2_with fail
        (with_reducible refine HH.out.mono ?_)
        rintro e w2 ⟨rfl, rfl⟩
        go_wp2_with fail
        (with_reducible refine HS.out.mono ?_)
        rintro e w3 ⟨rfl, h3, t3⟩
        go_wp2
        go_ret
        exact ⟨rfl, _, _, _, _, h3, T1.out.trans t3⟩
      | false =>
        rw [ho, if_neg (by decide)] at he
        subst he
        rw [if_pos rfl] at hd
        have hbd : DkB d := hb
        have HS := Lib.hid (d_stepW_on h1 ho (penA d n (sl s)) w.heap.size (w.heap.size + 1) (w.heap.size + 2) (fun wx hx tx => d_Write1 hx hb n hn s h32 _ _ _
          (tx.blk b0 (fun hf => Nat.lt_irrefl _ (hnf _ hf))) (tx.blk b1 (fun hf => by have := hnf _ hf; omega)) (tx.blk b2 (fun hf => by have := hnf _ hf; omega))) rfl rfl)
        have hfin : tickD (penA d n (sl s)) = d' := by rw [← hd, Int.toNat_natCast]; rfl
        rw [hfin] at HS
        unfold ptD at HS
        have T1 := Lib.hid t1
        clear h hb hbd h1 t1 b0 b1 b2 hnf hin hn h32 ho hlen hb1 hsz hd hfin
        subst hw1
        go_enter Try.func38, Try.ntmps38
        go_wp2_with fail
        (with_reducible refine HH.out.mono ?_)
        rintro e w2 ⟨rfl, rfl⟩
        go_wp2_with fail
        (with_reducible refine HS.out.mono ?_)
        rintro e w3 ⟨rfl, k', E', V', q', h3, t3⟩
        go_wp2
        go_ret
        exact ⟨rfl, _, _, _, _, h3, T1.out.trans t3⟩
    · rw [if_pos (by simpa using h32)] at he
      subst he
      rw [if_neg (by decide)] at hd
      subst hd
      have g0 : ¬ (s.size : Int) = 32 := by omega
      have g1 : ((s.size : Int) != 32) = true := by simpa using g0
      have H1 := Lib.hid h1
      have T1 := Lib.hid t1
      clear h hb h1 t1 b0 b1 b2 hnf hin hn h32 hlen hb1
      subst hw1
      go_enter Try.func38, Try.ntmps38
      go_wp2_with fail
      (with_reducible refine HH.out.mono ?_)
      rintro e w2 ⟨rfl, rfl⟩
      go_wp2
      go_ret
      exact ⟨rfl, _, _, _, _, H1.out, T1.out⟩
  · rw [if_pos (by simpa using hin)] at he
    subst he
    rw [if_neg (by decide)] at hd
    subst hd
    have HH := Lib.hid (d_has h1 i false (.inr ⟨rfl, hin⟩) hlen)
    unfold ptD at HH
    have H1 := Lib.hid h1
    have T1 := Lib.hid t1
    clear h hb h1 t1 b0 b1 b2 hnf hin hlen hb1
    subst hw1
    go_enter Try.func38, Try.ntmps38
    go_wp2_with fail
    (with_reducible refine HH.out.mono ?_)
    rintro e w2 ⟨rfl, rfl⟩
    go_wp2
    go_ret
    exact ⟨rfl, _, _, _, _, H1.out, T1.out⟩
end Go.Proofs.Ytccplgicfbfjiaa
