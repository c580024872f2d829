/- Walks of the program's disk: Read, Safe, Off, New. -/
import Derived.Test.YtdpdgmfmjgjmiaaZLst
import Derived.Laws.EntriesVeiled
namespace Go.Proofs.Ytdpdgmfmjgjmiaa
open Go.RowKit
set_option linter.unusedVariables false

variable {w : World} {base D S M k : Nat} {E : DataW Unit} {V : Nat → Value} {q : Option (Nat × Int)} {d : DiskM}
theorem DkW.turn (h : DkW w base D S M k E V q d) {w' : World} (hb : Below w.heap.size w w') : DkW w' base D S M k E V q d ∧ Turn base w w' (foot D S M V q) (foot D S M V q) :=
  ⟨h.below hb, Turn.of_below hb (by have := h.blk.lt; have := h.hD; omega)⟩
set_option maxRecDepth 100000 in
theorem d_Read (h : DkW w base D S M k E V q d) (hb : DkB d) (i : Int) (hi : (Lit.int .i64 i).wf = true) (s : ByteArray) (e : Nat) (he : rdE d i = (sl s, e)) :
    Calls Try.prog 16 #[ptD D, .int .i64 i] w fun x w' => x = .returned (.tuple #[.string s, .int .i64 (e : Int)]) ∧ DkW w' base D S M k E V q d ∧ Turn base w w' (foot D S M V q) (foot D S M V q) := by
  have hw : base ≤ w.heap.size := by have := h.blk.lt; have := h.hD; omega
  have hlen := hb.sec
  unfold rdE at he
  cases ho : offD d with
  | true =>
    rw [ho, if_pos rfl] at he
    obtain rfl : s = ⟨#[]⟩ := sl_inj ((congrArg Prod.fst he).symm)
    obtain rfl : 130 = e := congrArg Prod.snd he
    have HO := Lib.hid (d_isOn h hw false ho)
    unfold ptD at HO ⊢
    clear h hb he ho
    go_enter Try.func16, Try.ntmps16
    go_wp2_with (go_at_call 31; (with_reducible refine HO.out.mono ?_); rintro e w1 ⟨rfl, h1, t1⟩)
    go_ret2
    exact ⟨rfl, h1, t1⟩
  | false =>
    rw [ho, if_neg (by decide)] at he
    have HO := Lib.hid (d_isOn h hw true ho)
    by_cases hin : inD d i
    · rw [if_pos hin] at he
      obtain ⟨n, rfl⟩ : ∃ n : Nat, i = (n : Int) := ⟨i.toNat, by unfold inD at hin; omega⟩
      have hn : n < d.sec.length := by unfold inD at hin; omega
      rw [Int.toNat_natCast] at he
      obtain ⟨h1, h2⟩ : readD d n = sl s ∧ 0 = e := ⟨congrArg Prod.fst he, congrArg Prod.snd he⟩
      subst h2
      have HH := Lib.hid (fun (wx : World) (hx : DkW wx base D S M k E V q d) => d_has hx (n : Int) true (.inl ⟨rfl, hin⟩) hlen)
      have HL := Lib.hid (fun (wx : World) (hx : DkW wx base D S M k E V q d) => d_last hx hb n hn (sl s) h1)
      have HT := Lib.hid (d_text (sl s) (by rw [← h1]; exact read_len hb.ok hn))
      rw [tx_sl] at HT
      obtain ⟨R, hR⟩ : ∃ R, rowB (sl s) = R := ⟨_, rfl⟩
      rw [hR] at HT HL
      unfold ptD at HO HH HL ⊢
      clear h hb he ho hin hn h1 hR hi hlen
      go_enter Try.func16, Try.ntmps16
      go_wp2_with fail
      (with_reducible refine HO.out.mono ?_)
      rintro e w1 ⟨rfl, h1, t1⟩
      have H1 := Lib.hid h1
      have T1 := Lib.hid t1
      clear h1 t1
      go_wp2_with fail
      (with_reducible refine (HH.out w1 H1.out).mono ?_)
      rintro e w2 ⟨rfl, rfl⟩
      go_wp2_with fail
      (with_reducible refine (HL.out w2 H1.out).mono ?_)
      rintro e w3 ⟨rfl, hb3⟩
      have B3 := Lib.hid hb3
      clear hb3
      go_wp2_with fail
      (with_reducible refine (HT.out w3).mono ?_)
      rintro e w4 ⟨rfl, hb4⟩
      have B4 := Lib.hid (B3.out.trans (hb4.mono B3.out.size))
      clear hb4
      go_wp2
      go_ret2
      have hf := H1.out.turn B4.out
      exact ⟨rfl, hf.1, T1.out.trans hf.2⟩
    · rw [if_neg hin] at he
      obtain rfl : s = ⟨#[]⟩ := sl_inj ((congrArg Prod.fst he).symm)
      obtain rfl : 131 = e := congrArg Prod.snd he
      have HH := Lib.hid (fun (wx : World) (hx : DkW wx base D S M k E V q d) => d_has hx i false (.inr ⟨rfl, hin⟩) hlen)
      unfold ptD at HO HH ⊢
      clear h hb he ho hin hi hlen
      go_enter Try.func16, Try.ntmps16
      go_wp2_with fail
      (with_reducible refine HO.out.mono ?_)
      rintro e w1 ⟨rfl, h1, t1⟩
      have H1 := Lib.hid h1
      have T1 := Lib.hid t1
      clear h1 t1
      go_wp2_with fail
      (with_reducible refine (HH.out w1 H1.out).mono ?_)
      rintro e w2 ⟨rfl, rfl⟩
      go_wp2
      go_ret2
      exact ⟨rfl, H1.out, T1.out⟩
set_option maxRecDepth 100000 in
theorem d_Safe (h : DkW w base D S M k E V q d) (hb : DkB d) (i : Int) (hi : (Lit.int .i64 i).wf = true) (s : ByteArray) (he : sfD d i = sl s) :
    Calls Try.prog 15 #[ptD D, .int .i64 i] w fun x w' => x = .returned (.string s) ∧ Below w.heap.size w w' := by
  have hlen := hb.sec
  unfold sfD at he
  by_cases hin : inD d i
  · rw [if_pos hin] at he
    obtain ⟨n, rfl⟩ : ∃ n : Nat, i = (n : Int) := ⟨i.toNat, by unfold inD at hin; omega⟩
    have hn : n < d.sec.length := by unfold inD at hin; omega
    rw [Int.toNat_natCast] at he
    have HH := Lib.hid (d_has h (n : Int) true (.inl ⟨rfl, hin⟩) hlen)
    have hsl : (sl s).length = 32 := by rw [← he]; exact getD_mem32 hb.ok hn
    have HT := Lib.hid (d_text (sl s) hsl)
    rw [tx_sl] at HT
    have hrow := row_at hn (h.slS hb.ok)
    rw [he] at hrow
    have hRl : (rowB (sl s)).length = 32 := by rw [rowB_len, hsl]
    obtain ⟨R, hR⟩ : ∃ R, rowB (sl s) = R := ⟨_, rfl⟩
    rw [hR] at HT hrow hRl
    have HROW := Lib.hid hrow
    have HRl := Lib.hid hRl
    have c0 := h.c0
    have hin' : (n : Int) < (d.sec.length : Int) := by omega
    unfold ptD at HH ⊢
    clear h hb he hin hn hsl hrow hR hRl hi
    generalize d.sec.length = m at *
    go_enter Try.func15, Try.ntmps15
    go_wp2_with fail
    (with_reducible refine HH.out.mono ?_)
    rintro e w2 ⟨rfl, rfl⟩
    go_wp2_with (first | (refine wpList_load_addr rfl 54 _ rfl _ rfl R HROW.out Try.underlying54 rfl (by rw [size_sec, HRl.out]) ?_) | (go_at_call 30; (with_reducible refine (HT.out _).mono ?_); rintro e w4 ⟨rfl, hb4⟩))
    go_ret
    exact ⟨rfl, hb4⟩
  · rw [if_neg hin] at he
    obtain rfl : s = ⟨#[]⟩ := sl_inj (by rw [← he]; rfl)
    have HH := Lib.hid (d_has h i false (.inr ⟨rfl, hin⟩) hlen)
    unfold ptD at HH ⊢
    clear h hb he hin hi hlen
    go_enter Try.func15, Try.ntmps15
    go_wp2_with fail
    (with_reducible refine HH.out.mono ?_)
    rintro e w2 ⟨rfl, rfl⟩
    go_wp2
    go_ret
    exact ⟨rfl, Below.refl _ _⟩
/-- a power is set -/
theorem DkW.setPower (h : DkW w base D S M k E V q d) {q' : Option (Nat × Int)} {d' : DiskM} (hs : d'.sec = d.sec) (hp : d'.pen = d.pen) (hq : pwIs d' q') (hl : ∀ L l, q' = some (L, l) → Blk w L 3 [.int .i64 l] ∧ base ≤ L) (hn : ∀ L l, q' = some (L, l) → ¬ foot D S M V q L) :
    DkW (w.setCell ⟨D, 2, none⟩ (pwV q')) base D S M k E V q' d' := by
  have ho : ∀ i, i ≠ D → (w.setCell ⟨D, 2, none⟩ (pwV q')).heap[i]? = w.heap[i]? := fun i hi => Below.heap_setCell _ _ _ i hi
  refine ⟨?_, ?_, ?_, by rw [hp]; exact h.len, fun i => ?_, h.apart, h.offS, fun L l e => ?_, hq, h.hD, h.hS, h.hM⟩
  · rw [hs]; exact h.blk.set 2 (pwV q')
  · rw [hs]; exact (ho S (fun e => h.neDS e.symm)).trans h.sec
  · rw [hs, hp]; exact h.pen.same (ho M (fun e => h.neDM e.symm))
  · rw [hp]; exact DkW.ownSame (h.own i) fun b e => ho b (h.neVD e)
  · obtain ⟨h1, h2⟩ := hl L l e
    exact ⟨(ho L (fun e2 => hn L l e (.inl e2))).trans h1, h2⟩
set_option maxRecDepth 100000 in
theorem d_Off (h : DkW w base D S M k E V q d) (after : Int) (ha : (Lit.int .i64 after).wf = true) :
    Calls Try.prog 14 #[ptD D, .int .i64 after] w fun x w' => x = .returned (.tuple #[]) ∧ (∃ q', DkW w' base D S M k E V q' (cutD d after) ∧ Turn base w w' (foot D S M V q) (foot D S M V q')) := by
  have hw : base ≤ w.heap.size := by have := h.blk.lt; have := h.hD; omega
  obtain ⟨w1, hw1⟩ : ∃ w1, w.alloc (.cells #[.int .i64 after] 3) = w1 := ⟨_, rfl⟩
  have hb1 : Below w.heap.size w w1 := by rw [← hw1]; exact (Below.refl w.heap.size w).alloc (Nat.le_refl _) _
  obtain ⟨h1, t1⟩ := h.turn hb1
  have hL : Blk w1 w.heap.size 3 [.int .i64 after] := by rw [← hw1]; exact Blk.new' w _ _ rfl
  have hnot : ∀ q'' i, foot D S M V q'' i → q'' = q → i < w.heap.size := fun q'' i hi e => by subst e; exact (h.lt i hi).2
  have hpw : pwIs (cutD d after) (some (w.heap.size, after)) := ⟨rfl, by show 0 < after ↔ 0 < max after 0; omega, fun e => by show after = max after 0; have : (0 : Int) < after := e; omega, ha⟩
  have hf : DkW (w1.setCell ⟨D, 2, none⟩ (pwV (some (w.heap.size, after)))) base D S M k E V (some (w.heap.size, after)) (cutD d after) :=
    h1.setPower rfl rfl hpw (fun L l e => by cases e; exact ⟨hL, hw⟩) (fun L l e hx => by cases e; have := hnot q _ hx rfl; omega)
  have t2 : Turn base w (w1.setCell ⟨D, 2, none⟩ (pwV (some (w.heap.size, after)))) (foot D S M V q) (foot D S M V (some (w.heap.size, after))) := by
    have hg := grown_setCell w1 ⟨D, 2, none⟩ (pwV (some (w.heap.size, after)))
    have ht := t1.trans (Turn.of_grown (F := foot D S M V q) hg (Nat.le_trans hw hb1.size) (fun b e => by cases e; exact ⟨.inl rfl, h.hD⟩))
    refine ⟨ht.b, ht.out, fun i hi => ?_⟩
    rcases hi with e | e | e | e | e
    · exact .inl (.inl e)
    · exact .inl (.inr (.inl e))
    · exact .inl (.inr (.inr (.inl e)))
    · cases e; exact .inr (Nat.le_refl _)
    · exact .inl (.inr (.inr (.inr (.inr e))))
  have c2 := h1.c2
  have f2 := h1.blk.free 2
  have HF := Lib.hid hf
  have T2 := Lib.hid t2
  have HG := Lib.hid (d_going after w)
  rw [hw1] at HG
  unfold pwV at HF T2 HG
  unfold ptD
  clear h hb1 h1 t1 hL hnot hpw hf t2 hw1 ha hw
  go_enter Try.func14, Try.ntmps14
  go_wp2_with (go_at_call 29; (with_reducible refine HG.out.mono ?_); rintro e w2 ⟨rfl, rfl⟩)
  go_end0
  exact ⟨rfl, _, HF.out, T2.out⟩
end Go.Proofs.Ytdpdgmfmjgjmiaa
