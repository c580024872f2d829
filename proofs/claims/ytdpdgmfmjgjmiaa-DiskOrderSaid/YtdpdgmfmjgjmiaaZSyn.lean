/- Walks of the program's disk: settle and Sync. -/
import Derived.Test.YtdpdgmfmjgjmiaaZSet
namespace Go.Proofs.Ytdpdgmfmjgjmiaa
open Go.RowKit
set_option linter.unusedVariables false

variable {w : World} {base D S M k : Nat} {E : DataW Unit} {V : Nat → Value} {q : Option (Nat × Int)} {d : DiskM}
def stS (D S n i : Nat) (R : List Value) (j : Nat) (v : Value) (_ : World) : Prop :=
  match j with
  | 0 | 1 | 5 => v = .pointer (some ⟨D, 0, none⟩)
  | 2 => v = .pointer (some ⟨D, 0, none⟩)
  | 3 => v = .slice (some ⟨S, 0, none⟩) n n
  | 4 | 6 => v = .int .i64 (i : Int)
  | 7 => v = .agg R.toArray
  | 8 => v = .pointer (some ⟨S, i * 32, none⟩)
  | _ => True
theorem stS_mono {D S n i : Nat} {R : List Value} (j : Nat) (v : Value) (W W' : World) (h : stS D S n i R j v W) : stS D S n i R j v W' := h
set_option maxRecDepth 100000 in
set_option maxHeartbeats 2000000 in
theorem d_settle (h : DkW w base D S M k E V q d) (hb : DkB d) :
    Calls Try.prog 24 #[.pointer (some ⟨D, 0, none⟩)] w fun e w' => e = .returned (.tuple #[]) ∧
      ∃ k' E' V', DkW w' base D S M k' E' V' q (settleD d) ∧ Turn base w w' (foot D S M V q) (foot D S M V' q) := by
  have hlen := hb.sec
  have c1 := h.c1
  have HM := Lib.hid h.pen.map
  have H := Lib.hid h
  have HB := Lib.hid hb
  have HL := Lib.hid hlen
  have hstart : ∀ left : Lit → Bool, left = Maps.has E → secZ d left = d.sec := fun left e => secZ_start d left fun i hi => by rw [e, h.pen.has]; simpa using hi
  have HST := Lib.hid hstart
  clear h hb hlen hstart
  go_enter Try.func24, Try.ntmps24
  go_wp2_with (first
    | (at_range; refine wpList_range_own _ rfl _ 46 rfl 3 45 law_int Try.underlying46 hdrR M k E rfl HM.out ?_; intro w0 hrg0 hg0 hs0))
  go_frame
  go_loopw [2] (fun _ wr => ∃ (left : Lit → Bool) (cnt : Nat), wr.ranges Try.prog 3 hdrR M w.heap.size k E left cnt ∧ DkW wr base D S M k E V q (secS d (secZ d left)) ∧ Turn base w wr (foot D S M V q) (foot D S M V q))
    (fun _ wr => wr.rangeLeft M w.heap.size)
  case atStart =>
    have hB0 : Below w.heap.size w w0 := ⟨hg0.os, hg0.tape, hg0.output, hg0.size, fun b hb => hg0.block b hb (by simp)⟩
    obtain ⟨h1, t1⟩ := H.out.turn hB0
    exact ⟨_, _, hrg0, by rw [HST.out _ rfl]; exact h1, t1⟩
  case round =>
    obtain ⟨left, cnt, hrg, hw, ht⟩ := hrel
    have c1r := hw.c1
    have HW := Lib.hid hw
    have HT := Lib.hid ht
    clear hw ht c1 hg0 hs0 hrg0
    go_wp2_with (first
      | (at_next; refine wpList_next_ranges _ rfl _ rfl 3 law_int hdrR (Value.int .i64) (fun c : Option Addr × Nat × Nat => .slice c.1 c.2.1 c.2.2) (fun key kl hk => by obtain ⟨x, hx, _⟩ := Maps.keyOf_int_inv Try.underlying3 hk; exact ⟨x, hx⟩) (fun v y hv => hdrR_slice_inv hv) M w.heap.size k _ _ _ rfl hrg ?_ ?_))
    · intro _ hl0
      have hfin := secZ_end d left hl0
      have HF := Lib.hid hfin
      have HMr := Lib.hid hrg.owns
      clear hfin
      go_wp2_with (refine wpList_clear_own _ rfl _ 46 rfl 3 45 Try.underlying46 hdrR M k E rfl HMr.out ?_; intro w5 hown5 hg5)
      go_end0
      obtain ⟨h5, t5⟩ := HW.out.cleared hown5 hg5
      have e : ({ secS d (secZ d left) with pen := [] } : DiskM) = settleD d := by
        unfold secS settleD
        rw [HF.out]
      rw [e] at h5
      exact ⟨rfl, _, _, _, h5, HT.out.trans t5⟩
    · intro x ca cn cc kl yd yp w1 cnt1 hkey hlk hv hat hrg1 hlt hg1 hs1 hen
      obtain ⟨x', ex, rfl, hwx⟩ := Maps.keyOf_int_inv Try.underlying3 hkey
      cases ex
      have hhas : Maps.has E (.int .i64 x) = true := Maps.has_true_of_atKey hat
      obtain ⟨i, hi, hxi⟩ := HW.out.pen.keys _ hhas
      have hi0 : i < d.sec.length := by
        have h9 : i < (secZ d left).length := hi
        rwa [secZ_len] at h9
      obtain rfl : x = (i : Int) := by
        unfold kI at hxi
        simpa using hxi
      have hpi : penD d.pen i ≠ [] := by
        have h9 : Maps.has E (kI i) = decide (penD d.pen i ≠ []) := HW.out.pen.has i
        have h8 : Maps.has E (kI i) = true := hhas
        rw [h8] at h9
        simpa using h9.symm
      have hne : ∀ b, b < w.heap.size → some b ≠ some w.heap.size := fun b hb e => by
        have e2 := Option.some.inj e
        omega
      have hw1 : DkW w1 base D S M k E V q (secS d (secZ d left)) := HW.out.keep fun b hb => hg1.block b (HW.out.lt b hb).2 (hne b (H.out.lt b hb).2)
      have hbw := H.out.blk.lt
      have hbd := H.out.hD
      have ht1 : Turn base w w1 (foot D S M V q) (foot D S M V q) :=
        ⟨⟨hg1.os.trans HT.out.b.os, hg1.tape.trans HT.out.b.tape, hg1.output.trans HT.out.b.output, Nat.le_trans HT.out.b.size hg1.size, fun b hb => (hg1.block b (by have := HT.out.b.size; omega) (hne b (by omega))).trans (HT.out.b.block b hb)⟩,
          fun b hb hF => (hg1.block b (by have := HT.out.b.size; omega) (hne b hb)).trans (HT.out.out b hb hF), fun b hb => .inl hb⟩
      have hbL := dkb_secZ HB.out left
      have hiL : i < (secS d (secZ d left)).sec.length := hi
      have hrd := secZ_read d left hi0 hpi
      have hs32 := read_len HB.out.ok hi0
      have hstep := secZ_step d left hi0 hpi
      obtain ⟨s, hs⟩ : ∃ s, readD d i = s := ⟨_, rfl⟩
      rw [hs] at hrd hs32 hstep
      obtain ⟨R, hR⟩ : ∃ R, rowB s = R := ⟨_, rfl⟩
      have hRl : R.length = 32 := by rw [← hR, rowB_len, hs32]
      have hR1 : R.toArray.all (·.oneCell') = true := by rw [← hR]; exact rowB_one _
      have hLast := fun W (hx : DkW W base D S M k E V q (secS d (secZ d left))) => d_last hx hbL i hiL s hrd
      rw [hR] at hLast
      unfold ptD at hLast
      have hst := fun W (hx : DkW W base D S M k E V q (secS d (secZ d left))) => hx.stored hbL hiL s hs32
      rw [hR] at hst
      have hsz : (secS d (secZ d left)).sec.length = d.sec.length := secZ_len _ _
      have hnew : secS (secS d (secZ d left)) ((secS d (secZ d left)).sec.set i s) = secS d (secZ d fun z => left z && !z.sameKey (kI i)) := by rw [hstep]; rfl
      rw [hnew] at hst
      have H1 := Lib.hid hw1
      have T1 := Lib.hid ht1
      have HLA := Lib.hid hLast
      have HSt := Lib.hid hst
      have HRl := Lib.hid hRl
      have HR1 := Lib.hid hR1
      have HSZ := Lib.hid hsz
      have HRG := Lib.hid hrg1
      have HRO := Lib.hid hrg
      have HLT := Lib.hid hlt
      have HI0 := Lib.hid hi0
      have hin : (i : Int) < (d.sec.length : Int) := by omega
      clear hw1 ht1 hLast hst hRl hR1 hsz hrg1 hrg hg1 hs1 hlt hbw hbd hbL hiL hrd hs32 hstep hs hR hnew hpi hi hxi hhas hat hv hlk hkey c1r hwx hi0 hne
      generalize hn : d.sec.length = n at *
      go_wp2_with fail
      refine region_free_last 9 mixed (by kernel_rfl) (by kernel_rfl) (fun u => #[_, _, _, _, _, _, _, _, _, _, _, _, u 0, u 1, u 2, u 3, u 4, u 5, u 6, u 7, u 8, _, _, _, _]) [] (fun j => match j with | 0 => _ | 1 => _ | 2 => _ | 3 => _ | 4 => _ | 5 => _ | 6 => _ | 7 => _ | 8 => _ | _ => undef) rfl
        (NewBut w1) (show Below _ _ _ from (Below.refl _ _).drew) (stS D S n i R) ?mono ?step ?last
      case mono => exact fun j v W W' h _ _ _ => stS_mono j v W W' h
      case step =>
        intro u W j o hj ho hC hd
        have hr := Below.refl W.heap.size W
        have hDW := H1.out.below hC
        have c0 := hDW.c0
        rw [HSZ.out] at c0
        have HD := Lib.hid hDW
        clear hDW
        rcases j with _ | _ | _ | _ | _ | _ | _ | _ | _ | j
        all_goals try (simp only [List.getElem?_cons_zero, List.getElem?_cons_succ, Option.some.injEq] at ho; subst ho)
        · go_wp2_with fail
          exact ⟨_, rfl, rfl, hC, hr⟩
        · have h1 : u 0 = .pointer (some ⟨D, 0, none⟩) := hd ⟨0, .data⟩ (by simp) rfl
          rw [h1]; go_wp2_with fail
          exact ⟨_, by simp [upd, h1], rfl, hC, hr⟩
        · have h1 : u 1 = .pointer (some ⟨D, 0, none⟩) := hd ⟨1, .data⟩ (by simp) rfl
          rw [h1]; go_wp2_with fail
          exact ⟨_, by simp [upd, h1], rfl, hC, hr⟩
        · have h1 : u 2 = .pointer (some ⟨D, 0, none⟩) := hd ⟨2, .data⟩ (by simp) rfl
          rw [h1]; go_wp2_with fail
          exact ⟨_, by simp [upd, h1], rfl, hC, hr⟩
        · go_wp2_with fail
          exact ⟨_, rfl, rfl, hC, hr⟩
        · go_wp2_with fail
          exact ⟨_, rfl, rfl, hC, hr⟩
        · go_wp2_with fail
          exact ⟨_, rfl, rfl, hC, hr⟩
        · have h1 : u 5 = .pointer (some ⟨D, 0, none⟩) := hd ⟨5, .data⟩ (by simp) rfl
          have h2 : u 6 = .int .i64 (i : Int) := hd ⟨6, .data⟩ (by simp) rfl
          rw [h1, h2]; go_wp2_with fail
          (with_reducible refine (HLA.out W HD.out).mono ?_)
          rintro e w3 ⟨rfl, hb3⟩
          go_wp2_with fail
          exact ⟨_, by simp [upd, h1, h2], rfl, hC.trans (hb3.mono hC.size), hb3⟩
        · have h1 : u 3 = .slice (some ⟨S, 0, none⟩) n n := hd ⟨3, .data⟩ (by simp) rfl
          have h2 : u 4 = .int .i64 (i : Int) := hd ⟨4, .data⟩ (by simp) rfl
          rw [h1, h2]; go_wp2_with fail
          exact ⟨_, by simp [upd, h1, h2], rfl, hC, hr⟩
        · omega
      case last =>
        intro u W o ho hC hS
        simp only [List.getElem?_cons_zero, List.getElem?_cons_succ, Option.some.injEq] at ho
        subst ho
        have h7 : u 7 = .agg R.toArray := hS 7 (by decide)
        have h8 : u 8 = .pointer (some ⟨S, i * 32, none⟩) := hS 8 (by decide)
        obtain ⟨k1, k2, k3⟩ := HSt.out W (H1.out.below hC)
        have K1 := Lib.hid k1
        have K2 := Lib.hid k2
        have hTw : Turn base w1 W (foot D S M V q) (foot D S M V q) := Turn.of_below hC (by have := H1.out.blk.lt; have := H1.out.hD; omega)
        have K3 := Lib.hid (T1.out.trans (hTw.trans k3))
        have hrgW : W.ranges Try.prog 3 hdrR M w.heap.size k E (fun z => left z && !z.sameKey (kI i)) cnt1 := HRG.out.kept (grown_below hC) (by simp) (by simp)
        have hbl := below_setCells (b := S) (B := S) (x := W) (Nat.le_refl _) R (i * 32) W (Below.refl _ _)
        have hSM : S ≠ M := H.out.neSM
        have hSr : S ≠ w.heap.size := by have := H.out.sec.lt; omega
        have hgS : W.grownBy (W.setCells S (i * 32) R) (some S) := ⟨hbl.os, hbl.tape, hbl.output, hbl.size, fun b _ hb => heap_setCells (fun e => hb (by rw [e])) _ _ _⟩
        have HRX := Lib.hid (hrgW.kept hgS (fun e => hSM (Option.some.inj e).symm) (fun e => hSr (Option.some.inj e).symm))
        clear k1 k2 k3 hTw hrgW hbl hSM hSr hgS hS hC
        rw [h7, h8]
        go_wp2_with (refine wpList_store_sec rfl 54 _ _ rfl S (i * 32) rfl R rfl K1.out HRl.out size_sec HR1.out ?_)
        go_roundw
        case rel => exact ⟨_, _, _, _, _, _, _, _, _, _, _, _, _, _, ⟨_, cnt1, HRX.out, K2.out, K3.out⟩, rfl⟩
        case measure => rw [HRX.out.left_eq, HRO.out.left_eq]; exact HLT.out
set_option maxRecDepth 100000 in
theorem d_Sync (h : DkW w base D S M k E V q d) (hb : DkB d) (e : Nat) (d' : DiskM) (he : syE d = e) (hd : syD d = d') :
    Calls Try.prog 12 #[ptD D] w fun x w' => x = .returned (.int .i64 (e : Int)) ∧ ∃ k' E' V' q', DkW w' base D S M k' E' V' q' d' ∧ Turn base w w' (foot D S M V q) (foot D S M V' q') := by
  unfold syE at he
  unfold syD at hd
  cases ho : offD d with
  | true =>
    rw [ho, if_pos rfl] at he hd
    subst he hd
    have HS := Lib.hid (d_stepS_off h ho)
    unfold ptD at HS ⊢
    clear h hb ho
    go_enter Try.func12, Try.ntmps12
    go_wp2_with fail
    (with_reducible refine HS.out.mono ?_)
    rintro e w3 ⟨rfl, h3, t3⟩
    go_wp2
    go_ret
    exact ⟨rfl, _, _, _, _, h3, t3⟩
  | false =>
    rw [ho, if_neg (by decide)] at he hd
    subst he
    have HS := Lib.hid (d_stepS_on h ho (settleD d) (fun wx hx tx => d_settle hx hb) rfl rfl)
    rw [settle_sync, hd] at HS
    unfold ptD at HS ⊢
    clear h hb ho hd
    go_enter Try.func12, Try.ntmps12
    go_wp2_with fail
    (with_reducible refine HS.out.mono ?_)
    rintro e w3 ⟨rfl, k', E', V', q', h3, t3⟩
    go_wp2
    go_ret
    exact ⟨rfl, _, _, _, _, h3, t3⟩
end Go.Proofs.Ytdpdgmfmjgjmiaa
