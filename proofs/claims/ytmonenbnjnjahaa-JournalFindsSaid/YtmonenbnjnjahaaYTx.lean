/- Walks of a journal's area read as one text. -/
import Derived.Test.YtmonenbnjnjahaaYPl
import Derived.Test.YtmonenbnjnjahaaZB
import Derived.Test.YtmonenbnjnjahaaFC
namespace Go.Proofs.Ytmonenbnjnjahaa
open Go.RowKit
set_option linter.unusedVariables false

theorem OwnB.same {w w' : World} {base : Nat} {e : TypeId} {v : Value} {l : List Int} (h : OwnB w base e v l) (hs : ∀ i, base ≤ i → i < w.heap.size → w'.heap[i]? = w.heap[i]?) : OwnB w' base e v l := by
  obtain ⟨h1, h2⟩ := h
  refine ⟨h1, ?_⟩
  rcases h2 with h2 | ⟨g, cap, cur, hv, hg, hh, r⟩
  · exact .inl h2
  · exact .inr ⟨g, cap, cur, hv, hg, (hs g hg (Array.getElem?_eq_some_iff.1 hh).1).trans hh, r⟩
theorem Bld.same {w w' : World} {base b : Nat} {l : List Nat} (h : Bld w base b l) (hs : ∀ i, base ≤ i → i < w.heap.size → w'.heap[i]? = w.heap[i]?) : Bld w' base b l := by
  obtain ⟨h1, p, v, h2, h3, h4, h5⟩ := h
  exact ⟨h1, p, v, h2, (hs b h1 h3.lt).trans h3, h4.same hs, h5⟩
theorem area_snocD (d : DiskM) (a n : Nat) : areaD d a (n + 1) = areaD d a n ++ readD d (a + n) := by
  rw [area_split]
  congr 1
  unfold areaD
  simp [List.range_succ]
theorem areaD_bys {d : DiskM} (hb : (∀ s ∈ d.sec, Bys s) ∧ ∀ p ∈ d.pen, Bys p.2) (a n : Nat) : Bys (areaD d a n) := by
  induction n with
  | zero => exact Bys.of fun x hx => by cases hx
  | succ n ih => rw [area_snocD]; exact ih.app (read_bys hb _)
set_option maxRecDepth 100000 in
theorem j_joined {w : World} {base D S M k : Nat} {E : DataW Unit} {V : Nat → Value} {q : Option (Nat × Int)} {d : DiskM} (h : DkW w base D S M k E V q d) (hb : DkB d) (hon : offD d = false) (fr to : Nat) (hle : fr ≤ to) (hto : to ≤ d.sec.length) (A : ByteArray) (hA : tx (areaD d fr (to - fr)) = A) :
    Calls Try.prog 34 #[.int .i64 (fr : Int), .int .i64 (to : Int), .func (.func 35) #[ptD D] #[]] w fun e w' => e = .returned (.tuple #[.string A, .int .i64 0]) ∧
      DkW w' base D S M k E V q d ∧ Turn base w w' (foot D S M V q) (foot D S M V q) := by
  have hsec := hb.sec
  have hw : base ≤ w.heap.size := by have := h.blk.lt; have := h.hD; omega
  have hfl : ∀ i, foot D S M V q i → i < w.heap.size := fun i hi => (h.lt i hi).2
  obtain ⟨w1, hw1⟩ : ∃ w1, w.alloc (.cells #[.pointer none, .slice none 0 0] 89) = w1 := ⟨_, rfl⟩
  have hb1 : Below w.heap.size w w1 := by rw [← hw1]; exact (Below.refl w.heap.size w).alloc (Nat.le_refl _) _
  have hB1 : Bld w1 w.heap.size w.heap.size [] := by rw [← hw1]; exact Bld.new w _ (Nat.le_refl _)
  obtain ⟨h1, t1⟩ := h.turn hb1
  have hz1 : w.heap.size ≤ w1.heap.size := hb1.size
  obtain ⟨F, hF⟩ : ∃ F, foot D S M V q = F := ⟨_, rfl⟩
  rw [hF] at t1 hfl ⊢
  have HR := Lib.hid (fun (wx : World) (hx : DkW wx base D S M k E V q d) (i : Nat) (hi : i < d.sec.length) => d_Read hx hb (i : Int) (wf_small i (by omega)) (tx (readD d i)) 0 (by rw [rd_on hi hon, sl_tx (read_bys hb.bys i)]))
  rw [hF] at HR
  have HKE := Lib.hid (fun (wa wb : World) (hx : DkW wa base D S M k E V q d) (hs : ∀ i, F i → wb.heap[i]? = wa.heap[i]?) => hx.keep (by rw [hF]; exact hs))
  have HL := Lib.hid hfl
  have HW := Lib.hid hw
  have HA := Lib.hid hA
  have HLE := Lib.hid hle
  have HTO := Lib.hid hto
  have HAL : Hid (∀ n, fr + n ≤ d.sec.length → (areaD d fr n).length = 32 * n) := Lib.hid (fun n hn => areaD_len hb.ok hn)
  have HBY : Hid (∀ n, Bys (areaD d fr n)) := Lib.hid (fun n => areaD_bys hb.bys fr n)
  have HSE := Lib.hid hsec
  have HRL : Hid (∀ i, Bys (readD d i)) := Lib.hid (fun i => read_bys hb.bys i)
  have H1 := Lib.hid h1
  have T1 := Lib.hid t1
  have B1 := Lib.hid hB1
  have i2 : (to : Int) ≤ 4096 := by omega
  unfold ptD at HR ⊢
  clear h hb hon hA hle hto hsec hw hfl hb1 hB1 h1 t1 hF
  go_enter Try.func34, Try.ntmps34
  go_wp2_with fail
  go_loopw [9, 10, 11] (fun v _ _ wr => ∃ i : Nat, v = .int .i64 (i : Int) ∧ fr ≤ i ∧ i ≤ to ∧ DkW wr base D S M k E V q d ∧ Turn base w wr F F ∧ Bld wr w.heap.size w.heap.size (areaD d fr (i - fr))) (fun v _ _ _ => to - (intOf v).toNat)
  case atStart => exact ⟨fr, rfl, Nat.le_refl _, HLE.out, H1.out, T1.out, by rw [Nat.sub_self]; exact B1.out⟩
  case round =>
    obtain ⟨i, rfl, h1, h2, hx, ht, hB⟩ := hrel
    have HX := Lib.hid hx
    have HT := Lib.hid ht
    have HB := Lib.hid hB
    have HS1 := Lib.hid h1
    clear hx ht hB
    by_cases hi : i < to
    · have g1 : (i : Int) < (to : Int) := by omega
      have HI := Lib.hid hi
      clear hi h1 h2
      go_wp2_with fail
      (with_reducible refine (HR.out wr HX.out i (by have := HTO.out; have := HI.out; omega)).mono ?_)
      rintro e w2 ⟨rfl, h2, t2⟩
      have H2 := Lib.hid h2
      have T2 := Lib.hid (HT.out.trans t2)
      have hz2 : wr.heap.size ≤ w2.heap.size := t2.b.size
      have hz0 : w.heap.size ≤ wr.heap.size := HT.out.b.size
      have hB2 := HB.out.same (w' := w2) fun j hj hjl => t2.out j hjl fun hf => by have := HL.out j hf; omega
      have hrz := tx_size (readD d i)
      have hsn : areaD d fr (i + 1 - fr) = areaD d fr (i - fr) ++ sl (tx (readD d i)) := by
        rw [sl_tx (HRL.out i)]
        have h1 := HS1.out
        rw [show i + 1 - fr = (i - fr) + 1 by omega, area_snocD, show fr + (i - fr) = i by omega]
      have hal1 := HAL.out (i - fr) (by have := HTO.out; have := HI.out; have := HS1.out; omega)
      have hal2 := HAL.out (i + 1 - fr) (by have := HTO.out; have := HI.out; have := HS1.out; omega)
      have hsum : (areaD d fr (i - fr)).length + (tx (readD d i)).size ≤ 1000000000 := by
        have e := congrArg List.length hsn
        rw [List.length_append, sl_len] at e
        have := HTO.out
        have := HSE.out
        have := HI.out
        omega
      have HWS := Lib.hid (b_WriteString w2 w.heap.size w.heap.size (areaD d fr (i - fr)) (tx (readD d i)) hB2 hsum (by omega))
      rw [← hsn] at HWS
      clear hB2 hsum hsn hal1 hal2 hrz hz0 hz2 h2 t2
      generalize tx (readD d i) = X at *
      go_wp2_with fail
      (with_reducible refine HWS.out.mono ?_)
      rintro e w3 ⟨rfl, hB3, hb3⟩
      have H3 := Lib.hid (HKE.out w2 w3 H2.out fun j hj => hb3.block j (HL.out j hj))
      have T3 := Lib.hid (T2.out.then hb3 HW.out (fun j hj => .inl hj))
      have B3 := Lib.hid hB3
      clear hB3 hb3
      go_wp2
      go_roundw
      case rel => exact ⟨i + 1, by go_num, by have := HS1.out; omega, HI.out, H3.out, T3.out, B3.out⟩
      case measure => (have := HI.out; simp [intOf]; omega)
    · have g1 : ¬ (i : Int) < (to : Int) := by omega
      obtain rfl : to = i := by omega
      have hl := HAL.out (to - fr) (by have := HTO.out; omega)
      have HST := Lib.hid (b_String wr w.heap.size w.heap.size (areaD d fr (to - fr)) HB.out (HBY.out _) (by have := HTO.out; have := HSE.out; omega))
      rw [HA.out] at HST
      clear hl hi h1 h2
      go_wp2_with fail
      (with_reducible refine HST.out.mono ?_)
      rintro e w3 ⟨rfl, hb3⟩
      have H3 := Lib.hid (HKE.out wr w3 HX.out fun j hj => hb3.block j (HL.out j hj))
      have T3 := Lib.hid (HT.out.then hb3 HW.out (fun j hj => .inl hj))
      clear hb3
      go_wp2
      go_ret2
      exact ⟨rfl, H3.out, T3.out⟩
theorem j_text {w : World} {base D S M k : Nat} {E : DataW Unit} {V : Nat → Value} {q : Option (Nat × Int)} {d : DiskM} (h : DkW w base D S M k E V q d) (hb : DkB d) (hon : offD d = false) (fr to : Nat) (hle : fr ≤ to) (hto : to ≤ d.sec.length) (A : ByteArray) (hA : tx (areaD d fr (to - fr)) = A) :
    Calls Try.prog 19 #[.agg (arV D fr to).toArray] w fun e w' => e = .returned (.tuple #[.string A, .int .i64 0]) ∧
      DkW w' base D S M k E V q d ∧ Turn base w w' (foot D S M V q) (foot D S M V q) := by
  obtain ⟨w1, hw1⟩ : ∃ w1, w.alloc (.cells (arV D fr to).toArray 49) = w1 := ⟨_, rfl⟩
  have hb1 : Below w.heap.size w w1 := by rw [← hw1]; exact (Below.refl w.heap.size w).alloc (Nat.le_refl _) _
  have k1 : Blk w1 w.heap.size 49 (arV D fr to) := by rw [← hw1]; exact Blk.new w _ _
  obtain ⟨h1, t1⟩ := h.turn hb1
  have c0 := k1.cell 0
  have c1 := k1.cell 1
  have c2 := k1.cell 2
  unfold arV ptD at c0 c1 c2
  simp only [List.getElem?_cons_zero, List.getElem?_cons_succ] at c0 c1 c2
  have HJ := Lib.hid (j_joined h1 hb hon fr to hle hto A hA)
  have T1 := Lib.hid t1
  unfold ptD at HJ
  unfold arV ptD at hw1 ⊢
  clear h hb hon hle hto hA hb1 k1 h1 t1
  go_enter Try.func19, Try.ntmps19
  go_wp2_with fail
  (with_reducible refine HJ.out.mono ?_)
  rintro e w2 ⟨rfl, h2, t2⟩
  have H2 := Lib.hid h2
  have T2 := Lib.hid (T1.out.trans t2)
  clear h2 t2
  go_wp2
  go_ret2
  exact ⟨rfl, H2.out, T2.out⟩
end Go.Proofs.Ytmonenbnjnjahaa
