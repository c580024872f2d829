/- Walks of the program's disk: a step that the power must be on for, made for each of the two things that are done. -/
import Derived.Test.YtdpdgmfmjgjmiaaZWr1
namespace Go.Proofs.Ytdpdgmfmjgjmiaa
open Go.RowKit
set_option linter.unusedVariables false

def tickD (d : DiskM) : DiskM := { d with rest := d.rest - 1 }
variable {w : World} {base D S M k : Nat} {E : DataW Unit} {V : Nat → Value} {q : Option (Nat × Int)} {d : DiskM}
/-- power that lasts, behind a step -/
theorem DkW.tickN (h : DkW w base D S M k E V none d) : DkW w base D S M k E V none (tickD d) := ⟨h.blk, h.sec, h.pen, h.len, h.own, h.apart, h.offS, h.left, h.pw, h.hD, h.hS, h.hM⟩
set_option maxRecDepth 100000 in
theorem d_stepW_off (h : DkW w base D S M k E V q d) (ho : offD d = true) (B0 B1 B2 : Nat) :
    Calls Try.prog 20 #[ptD D, .func (.func 21) #[] #[.pointer (some ⟨B0, 0, none⟩), .pointer (some ⟨B1, 0, none⟩), .pointer (some ⟨B2, 0, none⟩)]] w fun e w' => e = .returned (.int .i64 130) ∧ DkW w' base D S M k E V q d ∧ Turn base w w' (foot D S M V q) (foot D S M V q) := by
  have hw : base ≤ w.heap.size := by have := h.blk.lt; have := h.hD; omega
  have HO := Lib.hid (d_isOn h hw false ho)
  unfold ptD at HO ⊢
  clear h ho hw
  go_enter Try.func20, Try.ntmps20
  go_wp2_with (go_at_call 31; (with_reducible refine HO.out.mono ?_); rintro e w1 ⟨rfl, h1, t1⟩)
  go_ret
  exact ⟨rfl, h1, t1⟩
set_option maxRecDepth 100000 in
theorem d_stepW_on (h : DkW w base D S M k E V q d) (ho : offD d = false) (d1 : DiskM) (B0 B1 B2 : Nat)
    (hdo : ∀ w1, DkW w1 base D S M k E V q d → Turn base w w1 (foot D S M V q) (foot D S M V q) → Calls Try.prog 21 #[.pointer (some ⟨B0, 0, none⟩), .pointer (some ⟨B1, 0, none⟩), .pointer (some ⟨B2, 0, none⟩)] w1 fun e w2 => e = .returned (.tuple #[]) ∧
      ∃ k' E' V', DkW w2 base D S M k' E' V' q d1 ∧ Turn base w1 w2 (foot D S M V q) (foot D S M V' q)) (hc : d1.cut = d.cut) (hr : d1.rest = d.rest) :
    Calls Try.prog 20 #[ptD D, .func (.func 21) #[] #[.pointer (some ⟨B0, 0, none⟩), .pointer (some ⟨B1, 0, none⟩), .pointer (some ⟨B2, 0, none⟩)]] w fun e w' => e = .returned (.int .i64 0) ∧
      ∃ k' E' V' q', DkW w' base D S M k' E' V' q' (tickD d1) ∧ Turn base w w' (foot D S M V q) (foot D S M V' q') := by
  have hw : base ≤ w.heap.size := by have := h.blk.lt; have := h.hD; omega
  have HO := Lib.hid (d_isOn h hw true ho)
  have HDO := Lib.hid hdo
  unfold ptD at HO ⊢
  cases q with
  | none =>
    have HP := Lib.hid (fun n w => d_lasting1 n w)
    clear h ho hdo hc hr hw
    go_enter Try.func20, Try.ntmps20
    go_wp2_with fail
    (with_reducible refine HO.out.mono ?_)
    rintro e w1 ⟨rfl, h1, t1⟩
    have H1 := Lib.hid h1
    have T1 := Lib.hid t1
    clear h1 t1
    go_wp2_with fail
    (with_reducible refine (HDO.out w1 H1.out T1.out).mono ?_)
    rintro e w2 ⟨rfl, k', E', V', h2, t2⟩
    have c2 := h2.c2
    unfold pwV at c2
    have H2 := Lib.hid h2.tickN
    have T2 := Lib.hid (T1.out.trans t2)
    clear h2 t2
    go_wp2_with fail
    (with_reducible refine (HP.out _ _).mono ?_)
    rintro e w3 ⟨rfl, rfl⟩
    go_wp2
    go_ret
    exact ⟨rfl, _, _, _, _, H2.out, T2.out⟩
  | some Ll =>
    obtain ⟨L, l⟩ := Ll
    obtain ⟨hcut, h1, h2, h3⟩ := h.pw
    have hl := i64_of h3
    have hpos : 0 < l := by
      unfold offD at ho
      rw [hcut, Bool.true_and] at ho
      have : ¬ d.rest ≤ 0 := by simpa using ho
      exact h1.2 (by omega)
    have hrest := h2 hpos
    obtain ⟨b, hbb⟩ : ∃ b, decide (0 < l - 1) = b := ⟨_, rfl⟩
    have hm : IntKind.i64.wrap (l - 1) = l - 1 := wrap_i64I (by omega) (by omega)
    have hpw : pwIs (tickD d1) (some (L, l - 1)) := by
      refine ⟨hc.trans hcut, ?_, fun e => ?_, wf_i64I (by show _ ≤ l - 1; omega) (by show l - 1 ≤ _; omega)⟩
      · show 0 < l - 1 ↔ 0 < d1.rest - 1
        rw [hr]; omega
      · show l - 1 = d1.rest - 1
        rw [hr]; omega
    have HPW := Lib.hid hpw
    have HM := Lib.hid hm
    have HB := Lib.hid hbb
    clear h ho hdo hc hr hw hcut h1 h2 h3 hl hpos hrest hm hpw hbb
    go_enter Try.func20, Try.ntmps20
    go_wp2_with fail
    (with_reducible refine HO.out.mono ?_)
    rintro e w1 ⟨rfl, h1, t1⟩
    have H1 := Lib.hid h1
    have T1 := Lib.hid t1
    clear h1 t1
    go_wp2_with fail
    (with_reducible refine (HDO.out w1 H1.out T1.out).mono ?_)
    rintro e w2 ⟨rfl, k', E', V', h2, t2⟩
    have c2 := h2.c2
    unfold pwV at c2
    have HG := Lib.hid (d_going1 1 l L b (l - 1) w2 (h2.left L l rfl).1 HM.out HB.out)
    have hs := h2.setLeft (l' := l - 1) (d' := tickD d1) rfl rfl HPW.out
    have HS := Lib.hid hs
    have T2 := Lib.hid ((T1.out.trans t2).trans hs.2)
    clear h2 t2 hs
    go_wp2_with fail
    (with_reducible refine HG.out.mono ?_)
    rintro e w3 ⟨rfl, rfl⟩
    go_wp2
    go_ret
    exact ⟨rfl, _, _, _, _, HS.out.1, T2.out⟩
set_option maxRecDepth 100000 in
theorem d_stepS_off (h : DkW w base D S M k E V q d) (ho : offD d = true) :
    Calls Try.prog 20 #[ptD D, .func (.func 24) #[.pointer (some ⟨D, 0, none⟩)] #[]] w fun e w' => e = .returned (.int .i64 130) ∧ DkW w' base D S M k E V q d ∧ Turn base w w' (foot D S M V q) (foot D S M V q) := by
  have hw : base ≤ w.heap.size := by have := h.blk.lt; have := h.hD; omega
  have HO := Lib.hid (d_isOn h hw false ho)
  unfold ptD at HO ⊢
  clear h ho hw
  go_enter Try.func20, Try.ntmps20
  go_wp2_with (go_at_call 31; (with_reducible refine HO.out.mono ?_); rintro e w1 ⟨rfl, h1, t1⟩)
  go_ret
  exact ⟨rfl, h1, t1⟩
set_option maxRecDepth 100000 in
theorem d_stepS_on (h : DkW w base D S M k E V q d) (ho : offD d = false) (d1 : DiskM)
    (hdo : ∀ w1, DkW w1 base D S M k E V q d → Turn base w w1 (foot D S M V q) (foot D S M V q) → Calls Try.prog 24 #[.pointer (some ⟨D, 0, none⟩)] w1 fun e w2 => e = .returned (.tuple #[]) ∧
      ∃ k' E' V', DkW w2 base D S M k' E' V' q d1 ∧ Turn base w1 w2 (foot D S M V q) (foot D S M V' q)) (hc : d1.cut = d.cut) (hr : d1.rest = d.rest) :
    Calls Try.prog 20 #[ptD D, .func (.func 24) #[.pointer (some ⟨D, 0, none⟩)] #[]] w fun e w' => e = .returned (.int .i64 0) ∧
      ∃ k' E' V' q', DkW w' base D S M k' E' V' q' (tickD d1) ∧ Turn base w w' (foot D S M V q) (foot D S M V' q') := by
  have hw : base ≤ w.heap.size := by have := h.blk.lt; have := h.hD; omega
  have HO := Lib.hid (d_isOn h hw true ho)
  have HDO := Lib.hid hdo
  unfold ptD at HO ⊢
  cases q with
  | none =>
    have HP := Lib.hid (fun n w => d_lasting1 n w)
    clear h ho hdo hc hr hw
    go_enter Try.func20, Try.ntmps20
    go_wp2_with fail
    (with_reducible refine HO.out.mono ?_)
    rintro e w1 ⟨rfl, h1, t1⟩
    have H1 := Lib.hid h1
    have T1 := Lib.hid t1
    clear h1 t1
    go_wp2_with fail
    (with_reducible refine (HDO.out w1 H1.out T1.out).mono ?_)
    rintro e w2 ⟨rfl, k', E', V', h2, t2⟩
    have c2 := h2.c2
    unfold pwV at c2
    have H2 := Lib.hid h2.tickN
    have T2 := Lib.hid (T1.out.trans t2)
    clear h2 t2
    go_wp2_with fail
    (with_reducible refine (HP.out _ _).mono ?_)
    rintro e w3 ⟨rfl, rfl⟩
    go_wp2
    go_ret
    exact ⟨rfl, _, _, _, _, H2.out, T2.out⟩
  | some Ll =>
    obtain ⟨L, l⟩ := Ll
    obtain ⟨hcut, h1, h2, h3⟩ := h.pw
    have hl := i64_of h3
    have hpos : 0 < l := by
      unfold offD at ho
      rw [hcut, Bool.true_and] at ho
      have : ¬ d.rest ≤ 0 := by simpa using ho
      exact h1.2 (by omega)
    have hrest := h2 hpos
    obtain ⟨b, hbb⟩ : ∃ b, decide (0 < l - 1) = b := ⟨_, rfl⟩
    have hm : IntKind.i64.wrap (l - 1) = l - 1 := wrap_i64I (by omega) (by omega)
    have hpw : pwIs (tickD d1) (some (L, l - 1)) := by
      refine ⟨hc.trans hcut, ?_, fun e => ?_, wf_i64I (by show _ ≤ l - 1; omega) (by show l - 1 ≤ _; omega)⟩
      · show 0 < l - 1 ↔ 0 < d1.rest - 1
        rw [hr]; omega
      · show l - 1 = d1.rest - 1
        rw [hr]; omega
    have HPW := Lib.hid hpw
    have HM := Lib.hid hm
    have HB := Lib.hid hbb
    clear h ho hdo hc hr hw hcut h1 h2 h3 hl hpos hrest hm hpw hbb
    go_enter Try.func20, Try.ntmps20
    go_wp2_with fail
    (with_reducible refine HO.out.mono ?_)
    rintro e w1 ⟨rfl, h1, t1⟩
    have H1 := Lib.hid h1
    have T1 := Lib.hid t1
    clear h1 t1
    go_wp2_with fail
    (with_reducible refine (HDO.out w1 H1.out T1.out).mono ?_)
    rintro e w2 ⟨rfl, k', E', V', h2, t2⟩
    have c2 := h2.c2
    unfold pwV at c2
    have HG := Lib.hid (d_going1 1 l L b (l - 1) w2 (h2.left L l rfl).1 HM.out HB.out)
    have hs := h2.setLeft (l' := l - 1) (d' := tickD d1) rfl rfl HPW.out
    have HS := Lib.hid hs
    have T2 := Lib.hid ((T1.out.trans t2).trans hs.2)
    clear h2 t2 hs
    go_wp2_with fail
    (with_reducible refine HG.out.mono ?_)
    rintro e w3 ⟨rfl, rfl⟩
    go_wp2
    go_ret
    exact ⟨rfl, _, _, _, _, HS.out.1, T2.out⟩
set_option maxRecDepth 100000 in
/-- Write -/
theorem d_Write (h : DkW w base D S M k E V q d) (hb : DkB d) (i : Int) (hi : (Lit.int .i64 i).wf = true) (s : ByteArray) (e : Nat) (d' : DiskM) (he : wrE d i s.size = e) (hd : wrD d i (sl s) = d') :
    Calls Try.prog 10 #[ptD D, .int .i64 i, .string s] w fun x w' => x = .returned (.int .i64 (e : Int)) ∧ ∃ k' E' V' q', DkW w' base D S M k' E' V' q' d' ∧ Turn base w w' (foot D S M V q) (foot D S M V' q') := by
  have hlen := hb.sec
  obtain ⟨w1, hw1⟩ : ∃ w1, ((w.alloc (.cells #[ptD D] 25)).alloc (.cells #[.int .i64 i] 3)).alloc (.cells #[.string s] 9) = w1 := ⟨_, rfl⟩
  have hb1 : Below w.heap.size w w1 := by rw [← hw1]; exact (((Below.refl w.heap.size w).alloc (Nat.le_refl _) _).alloc (by simp) _).alloc (by simp; omega) _
  obtain ⟨h1, t1⟩ := h.turn hb1
  have b0 : Blk w1 w.heap.size 25 [ptD D] := by rw [← hw1]; exact ((Blk.new' w _ _ rfl).alloc _).alloc _
  have b1 : Blk w1 (w.heap.size + 1) 3 [.int .i64 i] := by rw [← hw1]; exact (Blk.new2 w _ _ _ rfl).alloc _
  have b2 : Blk w1 (w.heap.size + 2) 9 [.string s] := by rw [← hw1]; exact Blk.newAt _ _ (by simp) _ _ rfl
  have c0 := b0.cell 0
  have c1 := b1.cell 0
  have c2 := b2.cell 0
  simp only [List.getElem?_cons_zero] at c0 c1 c2
  have hnf : ∀ j, foot D S M V q j → j < w.heap.size := fun j hj => (h.lt j hj).2
  unfold wrD at hd
  rw [sl_len, he] at hd
  unfold wrE at he
  unfold ptD at c0 hw1 ⊢
  by_cases hin : inD d i
  · rw [if_neg (by simpa using hin)] at he
    obtain ⟨n, rfl⟩ : ∃ n : Nat, i = (n : Int) := ⟨i.toNat, by unfold inD at hin; omega⟩
    have hn : n < d.sec.length := by unfold inD at hin; omega
    have HH := Lib.hid (d_has h1 (n : Int) true (.inl ⟨rfl, hin⟩) hlen)
    unfold ptD at HH
    by_cases h32 : s.size = 32
    · rw [if_neg (by simpa using h32)] at he
      have hsz : (s.size : Int) = 32 := by omega
      have g1 : ((s.size : Int) != 32) = false := by rw [hsz]; rfl
      cases ho : offD d with
      | true =>
        rw [ho, if_pos rfl] at he
        subst he
        rw [if_neg (by decide)] at hd
        subst hd
        have HS := Lib.hid (d_stepW_off h1 ho w.heap.size (w.heap.size + 1) (w.heap.size + 2))
        unfold ptD at HS
        have T1 := Lib.hid t1
        clear h hb h1 t1 b0 b1 b2 hnf hin hn h32 ho hlen hb1 hsz
        subst hw1
        go_enter Try.func10, Try.ntmps10
        go_wp2_with fail
        (with_reducible refine HH.out.mono ?_)
        rintro e w2 ⟨rfl, rfl⟩
        go_wp2_with fail
        (with_reducible refine HS.out.mono ?_)
        rintro e w3 ⟨rfl, h3, t3⟩
        go_wp2
        go_ret
        exact ⟨rfl, _, _, _, _, h3, T1.out.trans t3⟩
      | false =>
        rw [ho, if_neg (by decide)] at he
        subst he
        rw [if_pos rfl] at hd
        have hbd : DkB d := hb
        have HS := Lib.hid (d_stepW_on h1 ho (penA d n (sl s)) w.heap.size (w.heap.size + 1) (w.heap.size + 2) (fun wx hx tx => d_Write1 hx hb n hn s h32 _ _ _
          (tx.blk b0 (fun hf => Nat.lt_irrefl _ (hnf _ hf))) (tx.blk b1 (fun hf => by have := hnf _ hf; omega)) (tx.blk b2 (fun hf => by have := hnf _ hf; omega))) rfl rfl)
        have hfin : tickD (penA d n (sl s)) = d' := by rw [← hd, Int.toNat_natCast]; rfl
        rw [hfin] at HS
        unfold ptD at HS
        have T1 := Lib.hid t1
        clear h hb hbd h1 t1 b0 b1 b2 hnf hin hn h32 ho hlen hb1 hsz hd hfin
        subst hw1
        go_enter Try.func10, Try.ntmps10
        go_wp2_with fail
        (with_reducible refine HH.out.mono ?_)
        rintro e w2 ⟨rfl, rfl⟩
        go_wp2_with fail
        (with_reducible refine HS.out.mono ?_)
        rintro e w3 ⟨rfl, k', E', V', q', h3, t3⟩
        go_wp2
        go_ret
        exact ⟨rfl, _, _, _, _, h3, T1.out.trans t3⟩
    · rw [if_pos (by simpa using h32)] at he
      subst he
      rw [if_neg (by decide)] at hd
      subst hd
      have g0 : ¬ (s.size : Int) = 32 := by omega
      have g1 : ((s.size : Int) != 32) = true := by simpa using g0
      have H1 := Lib.hid h1
      have T1 := Lib.hid t1
      clear h hb h1 t1 b0 b1 b2 hnf hin hn h32 hlen hb1
      subst hw1
      go_enter Try.func10, Try.ntmps10
      go_wp2_with fail
      (with_reducible refine HH.out.mono ?_)
      rintro e w2 ⟨rfl, rfl⟩
      go_wp2
      go_ret
      exact ⟨rfl, _, _, _, _, H1.out, T1.out⟩
  · rw [if_pos (by simpa using hin)] at he
    subst he
    rw [if_neg (by decide)] at hd
    subst hd
    have HH := Lib.hid (d_has h1 i false (.inr ⟨rfl, hin⟩) hlen)
    unfold ptD at HH
    have H1 := Lib.hid h1
    have T1 := Lib.hid t1
    clear h hb h1 t1 b0 b1 b2 hnf hin hlen hb1
    subst hw1
    go_enter Try.func10, Try.ntmps10
    go_wp2_with fail
    (with_reducible refine HH.out.mono ?_)
    rintro e w2 ⟨rfl, rfl⟩
    go_wp2
    go_ret
    exact ⟨rfl, _, _, _, _, H1.out, T1.out⟩
end Go.Proofs.Ytdpdgmfmjgjmiaa
