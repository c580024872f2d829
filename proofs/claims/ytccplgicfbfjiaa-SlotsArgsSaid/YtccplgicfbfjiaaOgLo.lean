/- Walks of a pair's last text. -/
import Derived.Test.YtccplgicfbfjiaaOgRe
namespace Go.Proofs.Ytccplgicfbfjiaa
open Go.RowKit
set_option linter.unusedVariables false

def errO : Option (Nat × List Nat) → Nat
  | none => 160
  | some _ => 0
theorem eq_slot_no (n : Nat) (s : ByteArray) (w : World) : (binOp .eql 54 (.agg #[.bool true, .int .u64 (n : Int), .string s]) (.agg #[.bool false, .int .u64 0, .string ⟨#[]⟩])).run Try.prog w = .ok (.bool false) w := by kernel_rfl
theorem tx_area_size {d : DiskM} (hb : DkB d) {a n : Nat} (h : a + n ≤ d.sec.length) : (tx (areaD d a n)).size = 32 * n := by rw [tx_size, areaD_len hb.ok h]
set_option maxRecDepth 100000 in
set_option maxHeartbeats 2000000 in
theorem g_last_off {w : World} {base D S M kk : Nat} {E : DataW Unit} {V : Nat → Value} {q : Option (Nat × Int)} {d : DiskM} (h : DkW w base D S M kk E V q d) (hb : DkB d) (hoff : offD d = true) (fr k : Nat) (hm : mayS d fr k) :
    Calls Try.prog 18 #[.agg (prV D fr k).toArray] w fun e w' => e = .returned (.tuple #[.agg #[.bool false, .int .u64 0, .string ⟨#[]⟩], .int .i64 130]) ∧
      DkW w' base D S M kk E V q d ∧ Turn base w w' (foot D S M V q) (foot D S M V q) := by
  have hsec := hb.sec
  have hw : base ≤ w.heap.size := by have := h.blk.lt; have := h.hD; omega
  have hfl : ∀ i, foot D S M V q i → i < w.heap.size := fun i hi => (h.lt i hi).2
  obtain ⟨hm1, hm2, hm3, hm4⟩ := hm
  have hk1 : 1 ≤ k := by omega
  have hk : k ≤ 100 := by omega
  have htop : fr + 2 * k ≤ d.sec.length := by omega
  obtain ⟨z, hz⟩ : ∃ z, w.heap.size = z := ⟨_, rfl⟩
  obtain ⟨w1, hw1⟩ : ∃ w1, w.alloc (.cells (prV D fr k).toArray 50) = w1 := ⟨_, rfl⟩
  obtain ⟨w2, hw2⟩ : ∃ w2, w1.alloc (.cells #[.bool false, .int .u64 0, .string ⟨#[]⟩] 54) = w2 := ⟨_, rfl⟩
  obtain ⟨w3, hw3⟩ : ∃ w3, w2.alloc (.cells #[.bool false, .int .u64 0, .string ⟨#[]⟩, .bool false, .int .u64 0, .string ⟨#[]⟩] 70) = w3 := ⟨_, rfl⟩
  have z1 : w1.heap.size = z + 1 := by rw [← hw1, ← hz]; simp
  have z2 : w2.heap.size = z + 1 + 1 := by rw [← hw2, ← z1]; simp
  have hb3 : Below z w w3 := by rw [← hw3, ← hw2, ← hw1, ← hz]; exact (((Below.refl w.heap.size w).alloc (Nat.le_refl _) _).alloc (by simp) _).alloc (by simp; omega) _
  have kP : Blk w3 z 50 (prV D fr k) := by rw [← hw3, ← hw2, ← hw1, ← hz]; exact ((Blk.new' w 50 (prV D fr k) rfl).alloc _).alloc _
  have kR : Blk w3 (z + 1) 54 [.bool false, .int .u64 0, .string ⟨#[]⟩] := by rw [← hw3, ← hw2, ← z1]; exact (Blk.new' w1 54 [.bool false, .int .u64 0, .string ⟨#[]⟩] rfl).alloc _
  have kA : Blk w3 (z + 1 + 1) 70 (slotV none ++ slotV none) := by rw [← hw3, ← z2]; exact Blk.new' w2 70 (slotV none ++ slotV none) rfl
  obtain ⟨h3, t3⟩ := h.turn (hz ▸ hb3)
  obtain ⟨F, hF⟩ : ∃ F, foot D S M V q = F := ⟨_, rfl⟩
  rw [hF] at t3 hfl ⊢
  have HR := Lib.hid (fun (wx : World) (hx : DkW wx base D S M kk E V q d) => g_read_off hx hb hoff fr k 0 fr hk1 hk (by omega) (by omega) (by omega))
  rw [hF] at HR
  have HKE := Lib.hid (fun (wa wb : World) (hx : DkW wa base D S M kk E V q d) (hs : ∀ i, F i → wb.heap[i]? = wa.heap[i]?) => hx.keep (by rw [hF]; exact hs))
  have HL := Lib.hid hfl
  have HW := Lib.hid hw
  have HZ := Lib.hid hz
  have H3 := Lib.hid h3
  have T3 := Lib.hid t3
  have P3 := Lib.hid kP
  have R3 := Lib.hid kR
  unfold prV ptD at hw1 HR
  unfold prV ptD
  clear h hb hoff hsec hw hfl hb3 h3 t3 hF kP kR kA hk1 hk htop hm1 hm2 hm3 hm4
  go_enter Try.func18, Try.ntmps18
  go_wp2_with fail
  go_loopw [9] (fun v wr => v = .int .i64 0 ∧ DkW wr base D S M kk E V q d ∧ Turn base w wr F F ∧ Blk wr z 50 (prV D fr k) ∧ Blk wr (z + 1) 54 [.bool false, .int .u64 0, .string ⟨#[]⟩]) (fun v _ => 0)
  case atStart => exact ⟨rfl, H3.out, T3.out, P3.out, R3.out⟩
  case round =>
    obtain ⟨rfl, hx, ht, hP, hR⟩ := hrel
    have HX := Lib.hid hx
    have HT := Lib.hid ht
    have HP := Lib.hid hP
    have HRB := Lib.hid hR
    clear hx ht hP hR
    unfold prV ptD at HP
    go_wp2_with (refine wpList_load_blk rfl 50 _ rfl z rfl HP.out Try.underlying50 rfl (by rw [size_pair]; rfl) ?_)
    refine (HR.out wr HX.out).mono ?_
    rintro e w7 ⟨rfl, h7, t7⟩
    have kR7 := t7.blk HRB.out fun hf => by have := HL.out _ hf; have := HZ.out; omega
    have K7 := Lib.hid kR7
    have H7 := Lib.hid h7
    have T7 := Lib.hid (HT.out.trans t7)
    clear kR7 h7 t7
    go_wp2_with (refine wpList_store_blk rfl 54 _ _ rfl (z + 1) [.bool false, .int .u64 0, .string ⟨#[]⟩] rfl rfl K7.out (by rw [size_slot]; rfl) rfl (by simp [Value.oneCell']) ?_)
    have hbS : Below w.heap.size w7 (w7.setRow (z + 1) #[.bool false, .int .u64 0, .string ⟨#[]⟩]) := by rw [HZ.out]; exact below_setRow (Below.refl z w7) (Nat.le_succ z) _
    have h8 := HKE.out _ _ H7.out fun i hi => hbS.block i (HL.out i hi)
    have t8 := T7.out.then hbS HW.out (fun i hi => .inl hi)
    refine bodyPost_ret (v := .tuple #[.agg #[.bool false, .int .u64 0, .string ⟨#[]⟩], .int .i64 130]) (results_cell_tmp rfl _ _ (z + 1) rfl (.int .i64 130) rfl (K7.out.row [.bool false, .int .u64 0, .string ⟨#[]⟩] rfl) Try.underlying54 rfl (by rw [size_slot]; rfl)) rfl ⟨rfl, h8, t8⟩
set_option maxRecDepth 100000 in
set_option maxHeartbeats 2000000 in
theorem g_last_on {w : World} {base D S M kk : Nat} {E : DataW Unit} {V : Nat → Value} {q : Option (Nat × Int)} {d : DiskM} (h : DkW w base D S M kk E V q d) (hb : DkB d) (hon : offD d = false) (fr k : Nat) (hm : mayS d fr k) (o : Option (Nat × List Nat)) (ho : slLoad d fr k = o) (er : Nat) (he : errO o = er) (v : List Value) (hv : slotV o = v) :
    Calls Try.prog 18 #[.agg (prV D fr k).toArray] w fun e w' => e = .returned (.tuple #[.agg v.toArray, .int .i64 (er : Int)]) ∧
      DkW w' base D S M kk E V q d ∧ Turn base w w' (foot D S M V q) (foot D S M V q) := by
  have hsec := hb.sec
  have hw : base ≤ w.heap.size := by have := h.blk.lt; have := h.hD; omega
  have hfl : ∀ i, foot D S M V q i → i < w.heap.size := fun i hi => (h.lt i hi).2
  obtain ⟨hm1, hm2, hm3, hm4⟩ := hm
  have hk1 : 1 ≤ k := by omega
  have hk : k ≤ 100 := by omega
  have htop : fr + 2 * k ≤ d.sec.length := by omega
  obtain ⟨z, hz⟩ : ∃ z, w.heap.size = z := ⟨_, rfl⟩
  obtain ⟨w1, hw1⟩ : ∃ w1, w.alloc (.cells (prV D fr k).toArray 50) = w1 := ⟨_, rfl⟩
  obtain ⟨w2, hw2⟩ : ∃ w2, w1.alloc (.cells #[.bool false, .int .u64 0, .string ⟨#[]⟩] 54) = w2 := ⟨_, rfl⟩
  obtain ⟨w3, hw3⟩ : ∃ w3, w2.alloc (.cells #[.bool false, .int .u64 0, .string ⟨#[]⟩, .bool false, .int .u64 0, .string ⟨#[]⟩] 70) = w3 := ⟨_, rfl⟩
  have z1 : w1.heap.size = z + 1 := by rw [← hw1, ← hz]; simp
  have z2 : w2.heap.size = z + 1 + 1 := by rw [← hw2, ← z1]; simp
  have hb3 : Below z w w3 := by rw [← hw3, ← hw2, ← hw1, ← hz]; exact (((Below.refl w.heap.size w).alloc (Nat.le_refl _) _).alloc (by simp) _).alloc (by simp; omega) _
  have kP : Blk w3 z 50 (prV D fr k) := by rw [← hw3, ← hw2, ← hw1, ← hz]; exact ((Blk.new' w 50 (prV D fr k) rfl).alloc _).alloc _
  have kR : Blk w3 (z + 1) 54 [.bool false, .int .u64 0, .string ⟨#[]⟩] := by rw [← hw3, ← hw2, ← z1]; exact (Blk.new' w1 54 [.bool false, .int .u64 0, .string ⟨#[]⟩] rfl).alloc _
  have kA : Blk w3 (z + 1 + 1) 70 (slotV none ++ slotV none) := by rw [← hw3, ← z2]; exact Blk.new' w2 70 (slotV none ++ slotV none) rfl
  obtain ⟨h3, t3⟩ := h.turn (hz ▸ hb3)
  obtain ⟨F, hF⟩ : ∃ F, foot D S M V q = F := ⟨_, rfl⟩
  rw [hF] at t3 hfl ⊢
  obtain ⟨A, hA⟩ : ∃ A, tx (areaD d fr k) = A := ⟨_, rfl⟩
  obtain ⟨C, hC⟩ : ∃ C, tx (areaD d (fr + k) k) = C := ⟨_, rfl⟩
  have hAz : A.size ≤ 60000 := by rw [← hA, tx_area_size hb (by omega)]; omega
  have hCz : C.size ≤ 60000 := by rw [← hC, tx_area_size hb (by omega)]; omega
  have hAs : sl A = areaD d fr k := by rw [← hA, sl_tx (areaD_bys hb.bys _ _)]
  have hCs : sl C = areaD d (fr + k) k := by rw [← hC, sl_tx (areaD_bys hb.bys _ _)]
  have ho2 : newO (slotF (sl A)) (slotF (sl C)) = o := by rw [newO_load, hAs, hCs]; exact ho
  have HRA := Lib.hid (fun (wx : World) (hx : DkW wx base D S M kk E V q d) => g_read_on hx hb hon fr k 0 fr hk (by omega) (by omega) (by omega) A hA)
  have HRC := Lib.hid (fun (wx : World) (hx : DkW wx base D S M kk E V q d) => g_read_on hx hb hon fr k 1 (fr + k) hk (by omega) (by omega) (by omega) C hC)
  rw [hF] at HRA HRC
  obtain ⟨xa, hxa⟩ : ∃ xa, slotF (sl A) = xa := ⟨_, rfl⟩
  obtain ⟨xc, hxc⟩ : ∃ xc, slotF (sl C) = xc := ⟨_, rfl⟩
  rw [hxa, hxc] at ho2
  have HSA := Lib.hid (fun wx => g_slotOf A wx hAz _ rfl)
  have HSC := Lib.hid (fun wx => g_slotOf C wx hCz _ rfl)
  rw [hxa] at HSA
  rw [hxc] at HSC
  have HNE := Lib.hid (fun wx => g_newer xa xc wx v (by rw [ho2]; exact hv))
  have la : (slotV xa).length = 3 := slotV_len xa
  have oa := slotV_one xa
  have lc : (slotV xc).length = 3 := slotV_len xc
  have oc := slotV_one xc
  have HO := Lib.hid ho2
  have HKE := Lib.hid (fun (wa wb : World) (hx : DkW wa base D S M kk E V q d) (hs : ∀ i, F i → wb.heap[i]? = wa.heap[i]?) => hx.keep (by rw [hF]; exact hs))
  have HL := Lib.hid hfl
  have HW := Lib.hid hw
  have HZ := Lib.hid hz
  have H3 := Lib.hid h3
  have T3 := Lib.hid t3
  have P3 := Lib.hid kP
  have R3 := Lib.hid kR
  have A3 := Lib.hid kA
  have HV := Lib.hid hv
  have HE := Lib.hid he
  clear hA hC hAz hCz hAs hCs hxa hxc ho2 ho
  obtain ⟨va, hva⟩ : ∃ va, slotV xa = va := ⟨_, rfl⟩
  obtain ⟨vc, hvc⟩ : ∃ vc, slotV xc = vc := ⟨_, rfl⟩
  rw [hva] at HSA HNE la oa
  rw [hvc] at HSC HNE lc oc
  have LA := Lib.hid la
  have LC := Lib.hid lc
  have OA := Lib.hid oa
  have OC := Lib.hid oc
  unfold prV ptD at hw1 HRA HRC
  unfold prV ptD
  clear h hb hon hsec hw hfl hb3 h3 t3 hF kP kR kA hk1 hk htop hm1 hm2 hm3 hm4 hv he hva hvc HO la lc oa oc
  go_enter Try.func18, Try.ntmps18
  go_wp2_with fail
  go_loopw [9] (fun v wr => DkW wr base D S M kk E V q d ∧ Turn base w wr F F ∧ Blk wr z 50 (prV D fr k) ∧ Blk wr (z + 1) 54 [.bool false, .int .u64 0, .string ⟨#[]⟩] ∧
    ((v = .int .i64 0 ∧ Blk wr (z + 1 + 1) 70 ([.bool false, .int .u64 0, .string ⟨#[]⟩] ++ [.bool false, .int .u64 0, .string ⟨#[]⟩])) ∨ (v = .int .i64 1 ∧ Blk wr (z + 1 + 1) 70 (va ++ [.bool false, .int .u64 0, .string ⟨#[]⟩])) ∨ (v = .int .i64 2 ∧ Blk wr (z + 1 + 1) 70 (va ++ vc)))) (fun v _ => 2 - (intOf v).toNat)
  case atStart => exact ⟨H3.out, T3.out, P3.out, R3.out, .inl ⟨rfl, A3.out⟩⟩
  case round =>
    obtain ⟨hx, ht, hP, hR, hcase⟩ := hrel
    have HX := Lib.hid hx
    have HT := Lib.hid ht
    have HP := Lib.hid hP
    have HRB := Lib.hid hR
    clear hx ht
    unfold prV ptD at HP
    rcases hcase with ⟨rfl, hB⟩ | ⟨rfl, hB⟩ | ⟨rfl, hB⟩
    · have HB := Lib.hid hB
      clear hB hP hR
      go_wp2_with (refine wpList_load_blk rfl 50 _ rfl z rfl HP.out Try.underlying50 rfl (by rw [size_pair]; rfl) ?_)
      refine (HRA.out wr HX.out).mono ?_
      rintro e w7 ⟨rfl, h7, t7⟩
      have nF : ∀ b, z ≤ b → ¬ F b := fun b hb hf => by have := HL.out b hf; have := HZ.out; omega
      have KP7 := Lib.hid (t7.blk HP.out (nF _ (Nat.le_refl z)))
      have KR7 := Lib.hid (t7.blk HRB.out (nF _ (Nat.le_succ z)))
      have KB7 := Lib.hid (t7.blk HB.out (nF _ (by omega)))
      have H7 := Lib.hid h7
      have T7 := Lib.hid (HT.out.trans t7)
      clear h7 t7 nF
      go_wp2_with fail
      refine (HSA.out w7).mono ?_
      rintro e w8 ⟨rfl, hb8⟩
      have KP8 := Lib.hid (KP7.out.below hb8 KP7.out.lt)
      have KR8 := Lib.hid (KR7.out.below hb8 KR7.out.lt)
      have KB8 := Lib.hid (KB7.out.below hb8 KB7.out.lt)
      have H8 := Lib.hid (H7.out.below hb8)
      have T8 := Lib.hid (T7.out.then (hb8.mono T7.out.b.size) HW.out (fun i hi => .inl hi))
      clear hb8
      go_wp2_with (refine wpList_store_part rfl 54 _ _ rfl (z + 1 + 1) 0 rfl va rfl [] [.bool false, .int .u64 0, .string ⟨#[]⟩] [.bool false, .int .u64 0, .string ⟨#[]⟩] KB8.out rfl (by rw [LA.out]; rfl) (by rw [size_slot, LA.out]) OA.out ?_; intro w9 k9 hb9 e9; clear e9)
      have KB9 := Lib.hid k9
      have KP9 := Lib.hid (KP8.out.below hb9 (by omega))
      have KR9 := Lib.hid (KR8.out.below hb9 (by omega))
      have H9 := Lib.hid (HKE.out _ _ H8.out fun i hi => hb9.block i (by have := HL.out i hi; have := HZ.out; omega))
      have T9 := Lib.hid (T8.out.then (hb9.mono (by have := HZ.out; omega)) HW.out (fun i hi => .inl hi))
      clear k9 hb9
      go_wp2
      go_roundw
      case rel => exact ⟨H9.out, T9.out, KP9.out, KR9.out, .inr (.inl ⟨by go_num, KB9.out⟩)⟩
      case measure => simp [intOf]
    · have HB := Lib.hid hB
      clear hB hP hR
      go_wp2_with (refine wpList_load_blk rfl 50 _ rfl z rfl HP.out Try.underlying50 rfl (by rw [size_pair]; rfl) ?_)
      refine (HRC.out wr HX.out).mono ?_
      rintro e w7 ⟨rfl, h7, t7⟩
      have nF : ∀ b, z ≤ b → ¬ F b := fun b hb hf => by have := HL.out b hf; have := HZ.out; omega
      have KP7 := Lib.hid (t7.blk HP.out (nF _ (Nat.le_refl z)))
      have KR7 := Lib.hid (t7.blk HRB.out (nF _ (Nat.le_succ z)))
      have KB7 := Lib.hid (t7.blk HB.out (nF _ (by omega)))
      have H7 := Lib.hid h7
      have T7 := Lib.hid (HT.out.trans t7)
      clear h7 t7 nF
      go_wp2_with fail
      refine (HSC.out w7).mono ?_
      rintro e w8 ⟨rfl, hb8⟩
      have KP8 := Lib.hid (KP7.out.below hb8 KP7.out.lt)
      have KR8 := Lib.hid (KR7.out.below hb8 KR7.out.lt)
      have KB8 := Lib.hid (KB7.out.below hb8 KB7.out.lt)
      have H8 := Lib.hid (H7.out.below hb8)
      have T8 := Lib.hid (T7.out.then (hb8.mono T7.out.b.size) HW.out (fun i hi => .inl hi))
      clear hb8
      go_wp2_with (refine wpList_store_part rfl 54 _ _ rfl (z + 1 + 1) 3 rfl vc rfl va [.bool false, .int .u64 0, .string ⟨#[]⟩] [] (by have := KB8.out; simpa using this) LA.out.symm (by rw [LC.out]; rfl) (by rw [size_slot, LC.out]) OC.out ?_; intro w9 k9 hb9 e9; clear e9)
      have KB9 := Lib.hid k9
      have KP9 := Lib.hid (KP8.out.below hb9 (by omega))
      have KR9 := Lib.hid (KR8.out.below hb9 (by omega))
      have H9 := Lib.hid (HKE.out _ _ H8.out fun i hi => hb9.block i (by have := HL.out i hi; have := HZ.out; omega))
      have T9 := Lib.hid (T8.out.then (hb9.mono (by have := HZ.out; omega)) HW.out (fun i hi => .inl hi))
      clear k9 hb9
      go_wp2
      go_roundw
      case rel => exact ⟨H9.out, T9.out, KP9.out, KR9.out, .inr (.inr ⟨by go_num, by have := KB9.out; rw [List.append_nil] at this; exact this⟩)⟩
      case measure => simp [intOf]
    · have HB := Lib.hid hB
      clear hB hP hR
      go_wp2_with (refine wpList_load_blk rfl 70 _ rfl (z + 1 + 1) rfl HB.out Try.underlying70 rfl (by rw [size_two, List.length_append, LA.out, LC.out]) ?_)
      refine (HNE.out wr).mono ?_
      rintro e w7 ⟨rfl, hb7⟩
      have kR7 := HRB.out.below hb7 HRB.out.lt
      have h7 := HX.out.below hb7
      have t7 := HT.out.then (hb7.mono HT.out.b.size) HW.out (fun i hi => .inl hi)
      have hy0 : z + 1 < w7.heap.size := kR7.lt
      obtain ⟨y, hy⟩ : ∃ y, w7.heap.size = y := ⟨_, rfl⟩
      obtain ⟨w8, hw8⟩ : ∃ w8, w7.alloc (.cells #[.bool false, .int .u64 0, .string ⟨#[]⟩] 54) = w8 := ⟨_, rfl⟩
      have kY8 : Blk w8 y 54 [.bool false, .int .u64 0, .string ⟨#[]⟩] := by rw [← hw8, ← hy]; exact Blk.new' w7 54 [.bool false, .int .u64 0, .string ⟨#[]⟩] rfl
      have b8 : Below w.heap.size w7 w8 := by rw [← hw8]; exact ((Below.refl w7.heap.size w7).alloc (Nat.le_refl _) _).mono (by have := HZ.out; omega)
      have kR8 : Blk w8 (z + 1) 54 [.bool false, .int .u64 0, .string ⟨#[]⟩] := by rw [← hw8]; exact kR7.alloc _
      have hyz : z + 1 ≠ y := by omega
      have hv := HV.out
      have he := HE.out
      have hbS : ∀ (wa : World) (b : Nat) (c : Array Value), z ≤ b → Below w.heap.size wa (wa.setRow b c) := fun wa b c hb => by rw [HZ.out]; exact below_setRow (Below.refl z wa) hb _
      have KY8 := Lib.hid kY8
      have KR8 := Lib.hid kR8
      have HBS := Lib.hid hbS
      have H7 := Lib.hid h7
      have T7 := Lib.hid t7
      have B8 := Lib.hid b8
      have HY0 := Lib.hid hy0
      have HY := Lib.hid hy
      clear kR7 h7 t7 hy0 b8 kR8 kY8 hbS hb7
      cases o with
      | none =>
        obtain rfl : [.bool false, .int .u64 0, .string ⟨#[]⟩] = v := hv
        obtain rfl : 160 = er := he
        have k9 := KY8.out.row [.bool false, .int .u64 0, .string ⟨#[]⟩] rfl
        have k9R := KR8.out.rowOther hyz #[.bool false, .int .u64 0, .string ⟨#[]⟩]
        have K9 := Lib.hid k9
        have K9R := Lib.hid k9R
        have b9 := (B8.out.trans (HBS.out w8 y #[.bool false, .int .u64 0, .string ⟨#[]⟩] (by have := HY0.out; have := HY.out; omega))).trans (HBS.out _ (z + 1) #[.bool false, .int .u64 0, .string ⟨#[]⟩] (Nat.le_succ z))
        have B9 := Lib.hid b9
        clear k9 k9R b9
        go_wp2_with (first | (refine wpList_store_blk rfl 54 _ _ rfl y [.bool false, .int .u64 0, .string ⟨#[]⟩] (by first | rfl | rw [hy]) rfl KY8.out (by rw [size_slot]; rfl) rfl (by simp [Value.oneCell']) ?_) | (refine wpList_store_blk rfl 54 _ _ rfl (z + 1) [.bool false, .int .u64 0, .string ⟨#[]⟩] rfl rfl K9R.out (by rw [size_slot]; rfl) rfl (by simp [Value.oneCell']) ?_) | (refine wpList_load_blk rfl 54 _ rfl y (by first | rfl | rw [hy]) K9.out Try.underlying54 rfl (by rw [size_slot]; rfl) ?_))
        refine bodyPost_ret (v := .tuple #[.agg #[.bool false, .int .u64 0, .string ⟨#[]⟩], .int .i64 160]) (results_cell_tmp rfl _ _ (z + 1) rfl (.int .i64 160) rfl (K9R.out.row [.bool false, .int .u64 0, .string ⟨#[]⟩] rfl) Try.underlying54 rfl (by rw [size_slot]; rfl)) rfl ⟨rfl, HKE.out _ _ H7.out fun i hi => B9.out.block i (HL.out i hi), T7.out.then B9.out HW.out (fun i hi => .inl hi)⟩
      | some x =>
        obtain ⟨n, s⟩ := x
        have hv2 : [.bool true, .int .u64 (n : Int), .string (tx s)] = v := hv
        obtain rfl : 0 = er := he
        obtain ⟨X, hX⟩ : ∃ X, tx s = X := ⟨_, rfl⟩
        rw [hX] at hv2
        subst hv2
        have hne := fun w => eq_slot_no n X w
        have k9 := KY8.out.row [.bool true, .int .u64 (n : Int), .string X] rfl
        have k9R := KR8.out.rowOther hyz #[.bool true, .int .u64 (n : Int), .string X]
        have K9 := Lib.hid k9
        have K9R := Lib.hid k9R
        have b9 := (B8.out.trans (HBS.out w8 y #[.bool true, .int .u64 (n : Int), .string X] (by have := HY0.out; have := HY.out; omega))).trans (HBS.out _ (z + 1) #[.bool true, .int .u64 (n : Int), .string X] (Nat.le_succ z))
        have B9 := Lib.hid b9
        clear k9 k9R b9 hX hv
        go_wp2_with (first | (refine wpList_store_blk rfl 54 _ _ rfl y [.bool true, .int .u64 (n : Int), .string X] (by first | rfl | rw [hy]) rfl KY8.out (by rw [size_slot]; rfl) rfl (by simp [Value.oneCell']) ?_) | (refine wpList_store_blk rfl 54 _ _ rfl (z + 1) [.bool true, .int .u64 (n : Int), .string X] rfl rfl K9R.out (by rw [size_slot]; rfl) rfl (by simp [Value.oneCell']) ?_) | (refine wpList_load_blk rfl 54 _ rfl y (by first | rfl | rw [hy]) K9.out Try.underlying54 rfl (by rw [size_slot]; rfl) ?_))
        refine bodyPost_ret (v := .tuple #[.agg #[.bool true, .int .u64 (n : Int), .string X], .int .i64 0]) (results_cell_tmp rfl _ _ (z + 1) rfl (.int .i64 0) rfl (K9R.out.row [.bool true, .int .u64 (n : Int), .string X] rfl) Try.underlying54 rfl (by rw [size_slot]; rfl)) rfl ⟨rfl, HKE.out _ _ H7.out fun i hi => B9.out.block i (HL.out i hi), T7.out.then B9.out HW.out (fun i hi => .inl hi)⟩
end Go.Proofs.Ytccplgicfbfjiaa
