/- Walks of a slot read: all of its sectors as one text. -/
import Derived.Test.YtccplgicfbfjiaaOgRd
namespace Go.Proofs.Ytccplgicfbfjiaa
open Go.RowKit
set_option linter.unusedVariables false

theorem wraps_i64s (n : Nat) (h : n ≤ 5000) : IntKind.i64.wrap (n : Int) = (n : Int) := by rw [IntKind.wrap_i64]; omega
set_option maxRecDepth 100000 in
set_option maxHeartbeats 2000000 in
theorem g_read_on {w : World} {base D S M kk : Nat} {E : DataW Unit} {V : Nat → Value} {q : Option (Nat × Int)} {d : DiskM} (h : DkW w base D S M kk E V q d) (hb : DkB d) (hon : offD d = false) (fr k b01 s : Nat) (hk : k ≤ 100) (hi : b01 ≤ 1) (hs : fr + b01 * k = s) (hto : s + k ≤ d.sec.length) (A : ByteArray) (hA : tx (areaD d s k) = A) :
    Calls Try.prog 30 #[.agg (prV D fr k).toArray, .int .i64 (b01 : Int)] w fun e w' => e = .returned (.tuple #[.string A, .int .i64 0]) ∧
      DkW w' base D S M kk E V q d ∧ Turn base w w' (foot D S M V q) (foot D S M V q) := by
  have hsec := hb.sec
  have hw : base ≤ w.heap.size := by have := h.blk.lt; have := h.hD; omega
  have hfl : ∀ i, foot D S M V q i → i < w.heap.size := fun i hi => (h.lt i hi).2
  obtain ⟨z, hz⟩ : ∃ z, w.heap.size = z := ⟨_, rfl⟩
  obtain ⟨w1, hw1⟩ : ∃ w1, w.alloc (.cells (prV D fr k).toArray 50) = w1 := ⟨_, rfl⟩
  obtain ⟨w2, hw2⟩ : ∃ w2, w1.alloc (.cells #[.pointer none, .slice none 0 0] 85) = w2 := ⟨_, rfl⟩
  have z1 : w1.heap.size = z + 1 := by rw [← hw1, ← hz]; simp
  have hb2 : Below z w w2 := by rw [← hw2, ← hw1, ← hz]; exact ((Below.refl w.heap.size w).alloc (Nat.le_refl _) _).alloc (by simp) _
  have hP : Blk w2 z 50 (prV D fr k) := by rw [← hw2, ← hw1, ← hz]; exact (Blk.new' w 50 (prV D fr k) rfl).alloc _
  have hB2 : Bld w2 (z + 1) (z + 1) [] := by rw [← hw2, ← z1]; exact Bld.new w1 _ (Nat.le_refl _)
  obtain ⟨h2, t2⟩ := h.turn (hz ▸ hb2)
  obtain ⟨F, hF⟩ : ∃ F, foot D S M V q = F := ⟨_, rfl⟩
  rw [hF] at t2 hfl ⊢
  have HR := Lib.hid (fun (wx : World) (hx : DkW wx base D S M kk E V q d) (i : Nat) (hi : i < d.sec.length) => d_Read hx hb (i : Int) (wf_small i (by omega)) (tx (readD d i)) 0 (by rw [rd_on hi hon, sl_tx (read_bys hb.bys i)]))
  rw [hF] at HR
  have HKE := Lib.hid (fun (wa wb : World) (hx : DkW wa base D S M kk E V q d) (hs : ∀ i, F i → wb.heap[i]? = wa.heap[i]?) => hx.keep (by rw [hF]; exact hs))
  have HST := Lib.hid (fun wx => g_start D fr k b01 wx (by omega) hk hi s hs)
  have HL := Lib.hid hfl
  have HW := Lib.hid hw
  have HZ := Lib.hid hz
  have HA := Lib.hid hA
  have HTO := Lib.hid hto
  have HAL : Hid (∀ n, s + n ≤ d.sec.length → (areaD d s n).length = 32 * n) := Lib.hid (fun n hn => areaD_len hb.ok hn)
  have HBY : Hid (∀ n, Bys (areaD d s n)) := Lib.hid (fun n => areaD_bys hb.bys s n)
  have HSE := Lib.hid hsec
  have HRL : Hid (∀ i, Bys (readD d i)) := Lib.hid (fun i => read_bys hb.bys i)
  have c2 := hP.cell 2
  unfold prV ptD at c2
  simp only [List.getElem?_cons_zero, List.getElem?_cons_succ] at c2
  have H2 := Lib.hid h2
  have T2 := Lib.hid t2
  have B2 := Lib.hid hB2
  have P2 := Lib.hid hP
  have i2 : (k : Int) ≤ 100 := by omega
  have i3 : (s : Int) ≤ 4096 := by omega
  unfold prV ptD at hw1 HST
  unfold ptD at HR
  unfold prV ptD
  clear h hb hon hA hto hsec hw hfl hb2 hB2 h2 t2 hF hP hs hi hk
  go_enter Try.func30, Try.ntmps30
  go_wp2_with fail
  go_loopw [12] (fun v wr => ∃ j : Nat, v = .int .i64 (j : Int) ∧ j ≤ k ∧ DkW wr base D S M kk E V q d ∧ Turn base w wr F F ∧ Bld wr (z + 1) (z + 1) (areaD d s j) ∧ Blk wr z 50 (prV D fr k)) (fun v _ => k - (intOf v).toNat)
  case atStart => exact ⟨0, rfl, Nat.zero_le _, H2.out, T2.out, B2.out, P2.out⟩
  case round =>
    obtain ⟨j, rfl, h2, hx, ht, hB, hP⟩ := hrel
    have HX := Lib.hid hx
    have HT := Lib.hid ht
    have HB := Lib.hid hB
    have HP := Lib.hid hP
    clear hx ht hB hP c2
    by_cases hj : j < k
    · have g1 : (j : Int) < (k : Int) := by omega
      have HJ := Lib.hid hj
      have hlt : s + j < d.sec.length := by have := HTO.out; omega
      obtain ⟨sj, hsj⟩ : ∃ sj, s + j = sj := ⟨_, rfl⟩
      have hval : (s : Int) + (j : Int) = (sj : Int) := by omega
      have HV := Lib.hid hval
      have hsn : areaD d s (j + 1) = areaD d s j ++ sl (tx (readD d (s + j))) := by rw [sl_tx (HRL.out (s + j)), area_snocD]
      have HSN := Lib.hid hsn
      have hal2 := HAL.out (j + 1) (by have := HTO.out; omega)
      have HAL2 := Lib.hid hal2
      have HRR := Lib.hid (fun wx hx => HR.out wx hx (s + j) hlt)
      have HTU : Hid (∀ W, Below wr.heap.size wr W → Turn base wr W F F) := Lib.hid (fun W hb => Turn.of_below hb (by have := HT.out.b.size; have := HW.out; omega))
      clear hval hsn hal2 hlt hj h2
      have HSJ : Hid (sj ≤ 5000) := Lib.hid (by have := HTO.out; have := HSE.out; have := HJ.out; omega)
      rw [hsj] at HRR HSN
      clear hsj
      generalize tx (readD d sj) = X at *
      go_wp2_with fail
      refine region_afterM (X := Unit) 7 12 (by decide) mixed (by kernel_rfl) (by kernel_rfl) (by kernel_rfl) (by kernel_rfl) (fun u => #[_, _, _, _, _, _, _, _, u 11, u 12, _, _, _, _, _, u 8, u 0, u 1, u 2, u 3, u 4, u 5, u 6, u 7, u 9, u 10, _, _, _, _, _, _, _]) [] (fun i => if i = 0 then u16 else if i = 1 then u17 else if i = 2 then u18 else if i = 3 then u19 else if i = 4 then u20 else if i = 5 then u21 else if i = 6 then u22 else if i = 7 then u23 else if i = 8 then u15 else if i = 9 then u24 else if i = 10 then u25 else if i = 11 then u8 else if i = 12 then u9 else undef) rfl
        (fun W => Below wr.heap.size wr W) (show Below _ _ _ from (Below.refl _ _).drew)
        (fun i v => match i with
          | 0 => v = .pointer (some ⟨z, 0, none⟩)
          | 1 => v = .pointer (some ⟨D, 0, none⟩)
          | 2 => v = .agg #[.pointer (some ⟨D, 0, none⟩), .int .i64 (fr : Int), .int .i64 (k : Int)]
          | 3 => v = .int .i64 (b01 : Int)
          | 4 => v = .int .i64 (s : Int)
          | 5 => v = .int .i64 (j : Int)
          | 6 => v = .int .i64 (sj : Int)
          | _ => True)
        (fun _ => .tuple #[.string X, .int .i64 0])
        (fun _ W => DkW W base D S M kk E V q d ∧ Turn base wr W F F)
        (fun _ i v => match i with
          | 8 => v = .tuple #[.string X, .int .i64 0]
          | 9 | 11 => v = .string X
          | 10 => v = .int .i64 0
          | _ => True) ?head ?one ?tail ?last
      case head =>
        intro u i op W hC hi ho hd
        rcases i with _ | _ | _ | _ | _ | _ | _ | i
        all_goals try (simp only [List.getElem?_cons_zero, List.getElem?_cons_succ, Option.some.injEq] at ho; subst ho)
        · go_wp2_with fail
          exact ⟨hC, _, by first | rfl | (simp [upd]; done) | (simp [upd]; rfl), rfl⟩
        · have h0 : u 0 = .pointer (some ⟨z, 0, none⟩) := hd ⟨0, .data⟩ (by simp) rfl
          rw [h0]
          have c0 : W.cell? ⟨z, 0, none⟩ = some (.pointer (some ⟨D, 0, none⟩)) := (HP.out.below hC HP.out.lt).cell 0
          go_wp2_with fail
          exact ⟨hC, _, by first | rfl | (simp [upd, h0]; done) | (simp [upd, h0]; rfl), rfl⟩
        · have kP := HP.out.below hC HP.out.lt
          unfold prV ptD at kP
          go_wp2_with (refine wpList_load_blk rfl 50 _ rfl z rfl kP Try.underlying50 rfl (by rw [size_pair]; rfl) ?_)
          exact ⟨hC, _, by first | rfl | (simp [upd]; done) | (simp [upd]; rfl), rfl⟩
        · go_wp2_with fail
          exact ⟨hC, _, by first | rfl | (simp [upd]; done) | (simp [upd]; rfl), rfl⟩
        · have h2 : u 2 = .agg #[.pointer (some ⟨D, 0, none⟩), .int .i64 (fr : Int), .int .i64 (k : Int)] := hd ⟨2, .data⟩ (by simp) rfl
          have h3 : u 3 = .int .i64 (b01 : Int) := hd ⟨3, .data⟩ (by simp) rfl
          rw [h2, h3]
          go_wp2_with fail
          (with_reducible refine (HST.out W).mono ?_)
          rintro e w7 ⟨rfl, hb7⟩
          go_wp2_with fail
          exact ⟨hC.trans (hb7.mono hC.size), _, by first | rfl | (simp [upd, h2, h3]; done) | (simp [upd, h2, h3]; rfl), rfl⟩
        · go_wp2_with fail
          exact ⟨hC, _, by first | rfl | (simp [upd]; done) | (simp [upd]; rfl), rfl⟩
        · have h4 : u 4 = .int .i64 (s : Int) := hd ⟨4, .data⟩ (by simp) rfl
          have h5 : u 5 = .int .i64 (j : Int) := hd ⟨5, .data⟩ (by simp) rfl
          rw [h4, h5]
          have e6 := HV.out
          have e7 : IntKind.i64.wrap ((s : Int) + (j : Int)) = (sj : Int) := by rw [e6]; exact wraps_i64s _ HSJ.out
          go_wp2_with fail
          exact ⟨hC, _, by first | rfl | (simp [upd, h4, h5]; done) | (simp [upd, h4, h5]; rfl), rfl⟩
        · omega
      case one =>
        intro u op W hC ho hd
        simp only [List.getElem?_cons_zero, List.getElem?_cons_succ, Option.some.injEq] at ho
        subst ho
        have h1 : u 1 = .pointer (some ⟨D, 0, none⟩) := hd 1 (by decide)
        have h6 : u 6 = .int .i64 (sj : Int) := hd 6 (by decide)
        clear hd
        rw [h1, h6]
        go_wp2_with fail
        (with_reducible refine (HRR.out W (HX.out.turn hC).1).mono ?_)
        rintro e w7 ⟨rfl, h7, t7⟩
        go_wp2_with fail
        exact ⟨(), by first | rfl | (simp [upd, h1, h6]; done) | (simp [upd, h1, h6]; rfl), h7, (HTU.out W hC).trans t7⟩
      case tail =>
        rintro ⟨⟩ u i op W hki hin ho hp hu hd
        have hu : u 7 = .tuple #[.string X, .int .i64 0] := hu
        rcases i with _ | _ | _ | _ | _ | _ | _ | _ | _ | _ | _ | _ | i
        all_goals try omega
        all_goals try (simp only [List.getElem?_cons_zero, List.getElem?_cons_succ, Option.some.injEq] at ho; subst ho)
        · rw [hu]
          go_wp2_with fail
          exact ⟨rfl, _, by simp [upd, hu], rfl⟩
        · have h8 : u 8 = .tuple #[.string X, .int .i64 0] := hd ⟨8, .data⟩ (by simp) rfl (by decide)
          rw [h8]
          go_wp2_with fail
          exact ⟨rfl, _, by simp [upd, hu, h8], rfl⟩
        · have h8 : u 8 = .tuple #[.string X, .int .i64 0] := hd ⟨8, .data⟩ (by simp) rfl (by decide)
          rw [h8]
          go_wp2_with fail
          exact ⟨rfl, _, by simp [upd, hu, h8], rfl⟩
        · have h9 : u 9 = .string X := hd ⟨9, .data⟩ (by simp) rfl (by decide)
          rw [h9]
          go_wp2_with fail
          exact ⟨rfl, _, by simp [upd, hu, h9], rfl⟩
      case last =>
        rintro ⟨⟩ u op W ho hp hu hS
        simp only [List.getElem?_cons_zero, List.getElem?_cons_succ, Option.some.injEq] at ho
        subst ho
        have h10 : u 10 = .int .i64 0 := hS 10 (by decide) (by decide)
        have h11 : u 11 = .string X := hS 11 (by decide) (by decide)
        obtain ⟨h3, t3⟩ := hp
        have H3 := Lib.hid h3
        have T3 := Lib.hid (HT.out.trans t3)
        have TW := Lib.hid t3
        clear hS hu h3 t3
        rw [h10, h11]
        go_wp2_with fail
        have hz2 : wr.heap.size ≤ W.heap.size := TW.out.b.size
        have hz0 := HT.out.b.size
        have hB7 := HB.out.same (w' := W) fun j hj hjl => TW.out.out j hjl fun hf => by have := HL.out j hf; have := HZ.out; omega
        have hP7 := TW.out.blk HP.out fun hf => by have := HL.out z hf; have := HZ.out; omega
        have hsum : (areaD d s j).length + X.size ≤ 1000000000 := by
          have e := congrArg List.length HSN.out
          rw [List.length_append, sl_len] at e
          have := HTO.out
          have := HSE.out
          have := HJ.out
          have := HAL2.out
          omega
        have HWS := Lib.hid (b_WriteString W (z + 1) (z + 1) (areaD d s j) X hB7 hsum hP7.lt)
        rw [← HSN.out] at HWS
        have P7 := Lib.hid hP7
        clear hB7 hsum hz0 hz2 hP7
        (with_reducible refine HWS.out.mono ?_)
        rintro e w9 ⟨rfl, hB9, hb9⟩
        have H9 := Lib.hid (HKE.out W w9 H3.out fun j hj => hb9.block j (by have := HL.out j hj; have := HZ.out; omega))
        have T9 := Lib.hid (T3.out.then (hb9.mono (by have := HZ.out; omega)) HW.out (fun j hj => .inl hj))
        have B9 := Lib.hid hB9
        have P9 := Lib.hid (P7.out.below hb9 (Nat.lt_succ_self z))
        clear hB9 hb9
        go_wp2
        go_roundw
        case rel => exact ⟨j + 1, by go_num, HJ.out, H9.out, T9.out, B9.out, P9.out⟩
        case measure => (have := HJ.out; simp [intOf]; omega)
    · have g1 : ¬ (j : Int) < (k : Int) := by omega
      obtain rfl : k = j := by omega
      have hl := HAL.out k (by have := HTO.out; omega)
      have HSTR := Lib.hid (b_String wr (z + 1) (z + 1) (areaD d s k) HB.out (HBY.out _) (by have := HTO.out; have := HSE.out; omega))
      rw [HA.out] at HSTR
      clear hl hj h2
      go_wp2_with fail
      (with_reducible refine HSTR.out.mono ?_)
      rintro e w3 ⟨rfl, hb3⟩
      have H3 := Lib.hid (HKE.out wr w3 HX.out fun j hj => hb3.block j (by have := HL.out j hj; have := HZ.out; omega))
      have T3 := Lib.hid (HT.out.then (hb3.mono (by have := HZ.out; omega)) HW.out (fun j hj => .inl hj))
      clear hb3
      go_wp2
      go_ret2
      exact ⟨rfl, H3.out, T3.out⟩
set_option maxRecDepth 100000 in
set_option maxHeartbeats 2000000 in
theorem g_read_off {w : World} {base D S M kk : Nat} {E : DataW Unit} {V : Nat → Value} {q : Option (Nat × Int)} {d : DiskM} (h : DkW w base D S M kk E V q d) (hb : DkB d) (hoff : offD d = true) (fr k b01 s : Nat) (hk1 : 1 ≤ k) (hk : k ≤ 100) (hi : b01 ≤ 1) (hs : fr + b01 * k = s) (hto : s + k ≤ d.sec.length) :
    Calls Try.prog 30 #[.agg (prV D fr k).toArray, .int .i64 (b01 : Int)] w fun e w' => e = .returned (.tuple #[.string ⟨#[]⟩, .int .i64 130]) ∧
      DkW w' base D S M kk E V q d ∧ Turn base w w' (foot D S M V q) (foot D S M V q) := by
  have hsec := hb.sec
  have hw : base ≤ w.heap.size := by have := h.blk.lt; have := h.hD; omega
  have hfl : ∀ i, foot D S M V q i → i < w.heap.size := fun i hi => (h.lt i hi).2
  obtain ⟨z, hz⟩ : ∃ z, w.heap.size = z := ⟨_, rfl⟩
  obtain ⟨w1, hw1⟩ : ∃ w1, w.alloc (.cells (prV D fr k).toArray 50) = w1 := ⟨_, rfl⟩
  obtain ⟨w2, hw2⟩ : ∃ w2, w1.alloc (.cells #[.pointer none, .slice none 0 0] 85) = w2 := ⟨_, rfl⟩
  have z1 : w1.heap.size = z + 1 := by rw [← hw1, ← hz]; simp
  have hb2 : Below z w w2 := by rw [← hw2, ← hw1, ← hz]; exact ((Below.refl w.heap.size w).alloc (Nat.le_refl _) _).alloc (by simp) _
  have hP : Blk w2 z 50 (prV D fr k) := by rw [← hw2, ← hw1, ← hz]; exact (Blk.new' w 50 (prV D fr k) rfl).alloc _
  obtain ⟨h2, t2⟩ := h.turn (hz ▸ hb2)
  obtain ⟨F, hF⟩ : ∃ F, foot D S M V q = F := ⟨_, rfl⟩
  rw [hF] at t2 hfl ⊢
  have HRR := Lib.hid (fun (wx : World) (hx : DkW wx base D S M kk E V q d) => d_Read hx hb (s : Int) (wf_small s (by omega)) ⟨#[]⟩ 130 (by unfold rdE; rw [hoff, if_pos rfl]; rfl))
  rw [hF] at HRR
  have HST := Lib.hid (fun wx => g_start D fr k b01 wx (by omega) hk hi s hs)
  have HL := Lib.hid hfl
  have HW := Lib.hid hw
  have HZ := Lib.hid hz
  have c2 := hP.cell 2
  unfold prV ptD at c2
  simp only [List.getElem?_cons_zero, List.getElem?_cons_succ] at c2
  have H2 := Lib.hid h2
  have T2 := Lib.hid t2
  have P2 := Lib.hid hP
  have i0 : 0 < k := by omega
  have i1 : (0 : Int) < (k : Int) := by omega
  have i2 : (k : Int) ≤ 100 := by omega
  have i3 : (s : Int) ≤ 4096 := by omega
  have e8 : IntKind.i64.wrap (s : Int) = (s : Int) := wraps_i64s _ (by omega)
  unfold prV ptD at hw1 HST
  unfold ptD at HRR
  unfold prV ptD
  clear h hb hoff hto hsec hw hfl hb2 h2 t2 hF hP hs hi hk hk1
  go_enter Try.func30, Try.ntmps30
  go_wp2_with fail
  go_loopw [12] (fun v wr => v = .int .i64 0 ∧ DkW wr base D S M kk E V q d ∧ Turn base w wr F F ∧ Blk wr z 50 (prV D fr k)) (fun v _ => 0)
  case atStart => exact ⟨rfl, H2.out, T2.out, P2.out⟩
  case round =>
      obtain ⟨rfl, hx, ht, hP⟩ := hrel
      have HX := Lib.hid hx
      have HT := Lib.hid ht
      have HP := Lib.hid hP
      have HTU : Hid (∀ W, Below wr.heap.size wr W → Turn base wr W F F) := Lib.hid (fun W hb => Turn.of_below hb (by have := HT.out.b.size; have := HW.out; omega))
      clear hx ht hP c2
      go_wp2_with fail
      refine region_afterM (X := Unit) 7 12 (by decide) mixed (by kernel_rfl) (by kernel_rfl) (by kernel_rfl) (by kernel_rfl) (fun u => #[_, _, _, _, _, _, _, _, u 11, u 12, _, _, _, _, _, u 8, u 0, u 1, u 2, u 3, u 4, u 5, u 6, u 7, u 9, u 10, _, _, _, _, _, _, _]) [] (fun i => if i = 0 then u16 else if i = 1 then u17 else if i = 2 then u18 else if i = 3 then u19 else if i = 4 then u20 else if i = 5 then u21 else if i = 6 then u22 else if i = 7 then u23 else if i = 8 then u15 else if i = 9 then u24 else if i = 10 then u25 else if i = 11 then u8 else if i = 12 then u9 else undef) rfl
        (fun W => Below wr.heap.size wr W) (show Below _ _ _ from (Below.refl _ _).drew)
        (fun i v => match i with
          | 0 => v = .pointer (some ⟨z, 0, none⟩)
          | 1 => v = .pointer (some ⟨D, 0, none⟩)
          | 2 => v = .agg #[.pointer (some ⟨D, 0, none⟩), .int .i64 (fr : Int), .int .i64 (k : Int)]
          | 3 => v = .int .i64 (b01 : Int)
          | 4 => v = .int .i64 (s : Int)
          | 5 => v = .int .i64 (0 : Int)
          | 6 => v = .int .i64 (s : Int)
          | _ => True)
        (fun _ => .tuple #[.string ⟨#[]⟩, .int .i64 130])
        (fun _ W => DkW W base D S M kk E V q d ∧ Turn base wr W F F)
        (fun _ i v => match i with
          | 8 => v = .tuple #[.string ⟨#[]⟩, .int .i64 130]
          | 9 | 11 => v = .string ⟨#[]⟩
          | 10 => v = .int .i64 130
          | _ => True) ?head ?one ?tail ?last
      case head =>
        intro u i op W hC hi ho hd
        rcases i with _ | _ | _ | _ | _ | _ | _ | i
        all_goals try (simp only [List.getElem?_cons_zero, List.getElem?_cons_succ, Option.some.injEq] at ho; subst ho)
        · go_wp2_with fail
          exact ⟨hC, _, by first | rfl | (simp [upd]; done) | (simp [upd]; rfl), rfl⟩
        · have h0 : u 0 = .pointer (some ⟨z, 0, none⟩) := hd ⟨0, .data⟩ (by simp) rfl
          rw [h0]
          have c0 : W.cell? ⟨z, 0, none⟩ = some (.pointer (some ⟨D, 0, none⟩)) := (HP.out.below hC HP.out.lt).cell 0
          go_wp2_with fail
          exact ⟨hC, _, by first | rfl | (simp [upd, h0]; done) | (simp [upd, h0]; rfl), rfl⟩
        · have kP := HP.out.below hC HP.out.lt
          unfold prV ptD at kP
          go_wp2_with (refine wpList_load_blk rfl 50 _ rfl z rfl kP Try.underlying50 rfl (by rw [size_pair]; rfl) ?_)
          exact ⟨hC, _, by first | rfl | (simp [upd]; done) | (simp [upd]; rfl), rfl⟩
        · go_wp2_with fail
          exact ⟨hC, _, by first | rfl | (simp [upd]; done) | (simp [upd]; rfl), rfl⟩
        · have h2 : u 2 = .agg #[.pointer (some ⟨D, 0, none⟩), .int .i64 (fr : Int), .int .i64 (k : Int)] := hd ⟨2, .data⟩ (by simp) rfl
          have h3 : u 3 = .int .i64 (b01 : Int) := hd ⟨3, .data⟩ (by simp) rfl
          rw [h2, h3]
          go_wp2_with fail
          (with_reducible refine (HST.out W).mono ?_)
          rintro e w7 ⟨rfl, hb7⟩
          go_wp2_with fail
          exact ⟨hC.trans (hb7.mono hC.size), _, by first | rfl | (simp [upd, h2, h3]; done) | (simp [upd, h2, h3]; rfl), rfl⟩
        · go_wp2_with fail
          exact ⟨hC, _, by first | rfl | (simp [upd]; done) | (simp [upd]; rfl), rfl⟩
        · have h4 : u 4 = .int .i64 (s : Int) := hd ⟨4, .data⟩ (by simp) rfl
          have h5 : u 5 = .int .i64 (0 : Int) := hd ⟨5, .data⟩ (by simp) rfl
          rw [h4, h5]
          skip
          have e7 := e8
          go_wp2_with fail
          exact ⟨hC, _, by first | rfl | (simp [upd, h4, h5]; done) | (simp [upd, h4, h5]; rfl), rfl⟩
        · omega
      case one =>
        intro u op W hC ho hd
        simp only [List.getElem?_cons_zero, List.getElem?_cons_succ, Option.some.injEq] at ho
        subst ho
        have h1 : u 1 = .pointer (some ⟨D, 0, none⟩) := hd 1 (by decide)
        have h6 : u 6 = .int .i64 (s : Int) := hd 6 (by decide)
        clear hd
        rw [h1, h6]
        go_wp2_with fail
        (with_reducible refine (HRR.out W (HX.out.turn hC).1).mono ?_)
        rintro e w7 ⟨rfl, h7, t7⟩
        go_wp2_with fail
        exact ⟨(), by first | rfl | (simp [upd, h1, h6]; done) | (simp [upd, h1, h6]; rfl), h7, (HTU.out W hC).trans t7⟩
      case tail =>
        rintro ⟨⟩ u i op W hki hin ho hp hu hd
        have hu : u 7 = .tuple #[.string ⟨#[]⟩, .int .i64 130] := hu
        rcases i with _ | _ | _ | _ | _ | _ | _ | _ | _ | _ | _ | _ | i
        all_goals try omega
        all_goals try (simp only [List.getElem?_cons_zero, List.getElem?_cons_succ, Option.some.injEq] at ho; subst ho)
        · rw [hu]
          go_wp2_with fail
          exact ⟨rfl, _, by simp [upd, hu], rfl⟩
        · have h8 : u 8 = .tuple #[.string ⟨#[]⟩, .int .i64 130] := hd ⟨8, .data⟩ (by simp) rfl (by decide)
          rw [h8]
          go_wp2_with fail
          exact ⟨rfl, _, by simp [upd, hu, h8], rfl⟩
        · have h8 : u 8 = .tuple #[.string ⟨#[]⟩, .int .i64 130] := hd ⟨8, .data⟩ (by simp) rfl (by decide)
          rw [h8]
          go_wp2_with fail
          exact ⟨rfl, _, by simp [upd, hu, h8], rfl⟩
        · have h9 : u 9 = .string ⟨#[]⟩ := hd ⟨9, .data⟩ (by simp) rfl (by decide)
          rw [h9]
          go_wp2_with fail
          exact ⟨rfl, _, by simp [upd, hu, h9], rfl⟩
      case last =>
        rintro ⟨⟩ u op W ho hp hu hS
        simp only [List.getElem?_cons_zero, List.getElem?_cons_succ, Option.some.injEq] at ho
        subst ho
        have h10 : u 10 = .int .i64 130 := hS 10 (by decide) (by decide)
        have h11 : u 11 = .string ⟨#[]⟩ := hS 11 (by decide) (by decide)
        obtain ⟨h3, t3⟩ := hp
        have H3 := Lib.hid h3
        have T3 := Lib.hid (HT.out.trans t3)
        have TW := Lib.hid t3
        clear hS hu h3 t3
        rw [h10, h11]
        go_wp2_with fail
        go_ret2
        exact ⟨rfl, H3.out, T3.out⟩
end Go.Proofs.Ytccplgicfbfjiaa
