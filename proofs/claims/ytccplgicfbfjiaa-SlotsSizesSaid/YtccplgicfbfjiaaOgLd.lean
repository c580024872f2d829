/- Walks of the slots' Load and Save. -/
import Derived.Test.YtccplgicfbfjiaaOgSv
import Derived.Test.YtccplgicfbfjiaaOgKit
namespace Go.Proofs.Ytccplgicfbfjiaa
open Go.RowKit
set_option linter.unusedVariables false

set_option maxRecDepth 100000 in
set_option maxHeartbeats 2000000 in
/-- Load, by what a pair's last text is -/
theorem g_Load_by {base : Nat} {w : World} {D S M kk : Nat} {E : DataW Unit} {V : Nat → Value} {q : Option (Nat × Int)} {d : DiskM} {F : Nat → Prop} (h : DkW w base D S M kk E V q d) (hF : F = foot D S M V q) (hsec : d.sec.length ≤ 4096) (hw : base ≤ w.heap.size) (fr k : Nat) (hm : mayS d fr k) (b : Bool) (n : Nat) (s : ByteArray) (er : Nat)
    (hla : ∀ wx, DkW wx base D S M kk E V q d → Calls Try.prog 18 #[.agg (prV D fr k).toArray] wx fun e w' => e = .returned (.tuple #[.agg #[.bool b, .int .u64 (n : Int), .string s], .int .i64 (er : Int)]) ∧ DkW w' base D S M kk E V q d ∧ Turn base wx w' F F)
    (s' : ByteArray) (n' : Nat) (hr : (er = 0 ∧ s' = s ∧ n' = n) ∨ (er ≠ 0 ∧ s' = ⟨#[]⟩ ∧ n' = 0)) :
    Calls Try.prog 11 #[ptD D, .int .i64 (fr : Int), .int .i64 (k : Int)] w fun x w' => x = .returned (.tuple #[.string s', .int .u64 (n' : Int), .int .i64 (er : Int)]) ∧ ∃ F', DkF base w' D d F' ∧ Turn base w w' F F' := by
  have HP := Lib.hid (g_pairOf_yes h hsec fr k hm)
  have HL : Hid (∀ i, F i → i < w.heap.size) := Lib.hid (fun i hi => (h.lt i (by rw [← hF]; exact hi)).2)
  have HKE := Lib.hid (fun (wa wb : World) (hx : DkW wa base D S M kk E V q d) (hb : Below w.heap.size wa wb) => hx.keep (w' := wb) fun i hi => hb.block i (h.lt i hi).2)
  have H0 := Lib.hid h
  have HW := Lib.hid hw
  have HFF := Lib.hid hF
  have HLA := Lib.hid hla
  unfold prV ptD at HP HLA
  unfold ptD
  clear h hw hm hsec hla hF
  go_enter Try.func11, Try.ntmps11
  go_wp2_with fail
  (with_reducible refine HP.out.mono ?_)
  rintro x w1 ⟨rfl, hb1⟩
  obtain ⟨y, hy⟩ : ∃ y, w1.heap.size = y := ⟨_, rfl⟩
  have hwy : w.heap.size ≤ y := by rw [← hy]; exact hb1.size
  obtain ⟨w2, hw2⟩ : ∃ w2, (w1.alloc (.cells #[.pointer none, .int .i64 0, .int .i64 0] 50)).setRow y (prV D fr k).toArray = w2 := ⟨_, rfl⟩
  have kN : Blk (w1.alloc (.cells #[.pointer none, .int .i64 0, .int .i64 0] 50)) y 50 [.pointer none, .int .i64 0, .int .i64 0] := by rw [← hy]; exact Blk.new' w1 50 [.pointer none, .int .i64 0, .int .i64 0] rfl
  have kP : Blk w2 y 50 (prV D fr k) := by rw [← hw2]; exact kN.row (prV D fr k) rfl
  have b2 : Below w.heap.size w w2 := by rw [← hw2]; exact below_setRow (hb1.trans (((Below.refl w1.heap.size w1).alloc (Nat.le_refl _) _).mono hb1.size)) hwy _
  have KN := Lib.hid kN
  have KP := Lib.hid kP
  have B2 := Lib.hid b2
  have HWY := Lib.hid hwy
  have H2 := Lib.hid (HKE.out _ _ H0.out b2)
  clear hb1 kN kP b2 hwy
  unfold prV ptD at hw2 KP
  go_wp2_with (first | (refine wpList_store_blk rfl 50 _ _ rfl y [.pointer (some ⟨D, 0, none⟩), .int .i64 (fr : Int), .int .i64 (k : Int)] (by first | rfl | rw [hy]) rfl KN.out (by rw [size_pair]; rfl) rfl (by simp [Value.oneCell']) ?_; rw [show [Value.pointer (some ⟨D, 0, none⟩), .int .i64 (fr : Int), .int .i64 (k : Int)].toArray = #[Value.pointer (some ⟨D, 0, none⟩), .int .i64 (fr : Int), .int .i64 (k : Int)] from rfl, hw2]) | (refine wpList_load_blk rfl 50 _ rfl y (by first | rfl | rw [hy]) KP.out Try.underlying50 rfl (by rw [size_pair]; rfl) ?_))
  (with_reducible refine (HLA.out w2 H2.out).mono ?_)
  rintro x w3 ⟨rfl, h3, t3⟩
  obtain ⟨v, hv⟩ : ∃ v, w3.heap.size = v := ⟨_, rfl⟩
  obtain ⟨w4, hw4⟩ : ∃ w4, w3.alloc (.cells #[.bool b, .int .u64 (n : Int), .string s] 54) = w4 := ⟨_, rfl⟩
  have kS : Blk w4 v 54 [.bool b, .int .u64 (n : Int), .string s] := by rw [← hw4, ← hv]; exact Blk.new' w3 54 [.bool b, .int .u64 (n : Int), .string s] rfl
  have hwv : w.heap.size ≤ v := by rw [← hv]; exact Nat.le_trans B2.out.size t3.b.size
  have b4 : Below w.heap.size w3 w4 := by rw [← hw4]; exact ((Below.refl w3.heap.size w3).alloc (Nat.le_refl _) _).mono (by rw [hv]; exact hwv)
  have h4 := HKE.out _ _ h3 b4
  have t4 : Turn base w w4 F F := ((Turn.of_below B2.out HW.out).trans t3).then b4 HW.out (fun i hi => .inl hi)
  have c1 := kS.cell 1
  have c2 := kS.cell 2
  simp only [List.getElem?_cons_zero, List.getElem?_cons_succ] at c1 c2
  have H4 := Lib.hid h4
  have T4 := Lib.hid t4
  clear h3 t3 kS hwv b4 h4 t4 KN KP
  rcases hr with ⟨rfl, rfl, rfl⟩ | ⟨he, rfl, rfl⟩
  · go_wp2
    go_quiet (fail)
    go_wp2
    go_ret3
    have hb := below_drewN (Below.refl w4.heap.size w4) nq
    obtain ⟨h5, t5⟩ := H4.out.turn hb
    exact ⟨rfl, F, ⟨S, M, kk, E, V, q, h5, HFF.out⟩, T4.out.trans (by rw [HFF.out]; exact t5)⟩
  · have g1 : ((er : Int) != 0) = true := by simpa using he
    go_wp2
    go_ret3
    exact ⟨rfl, F, ⟨S, M, kk, E, V, q, H4.out, HFF.out⟩, T4.out⟩
set_option maxRecDepth 100000 in
theorem g_Load_no {base : Nat} {w : World} {D S M kk : Nat} {E : DataW Unit} {V : Nat → Value} {q : Option (Nat × Int)} {d : DiskM} {F : Nat → Prop} (h : DkW w base D S M kk E V q d) (hF : F = foot D S M V q) (hsec : d.sec.length ≤ 4096) (fr k : Int) (hm : ¬ mayS d fr k) :
    Calls Try.prog 11 #[ptD D, .int .i64 fr, .int .i64 k] w fun x w' => x = .returned (.tuple #[.string ⟨#[]⟩, .int .u64 0, .int .i64 1]) ∧ ∃ F', DkF base w' D d F' ∧ Turn base w w' F F' := by
  have HP := Lib.hid (g_pairOf_no h hsec fr k hm)
  have H0 := Lib.hid h
  have HFF := Lib.hid hF
  unfold ptD at HP ⊢
  clear h hm hsec hF
  go_enter Try.func11, Try.ntmps11
  go_wp2_with fail
  (with_reducible refine HP.out.mono ?_)
  rintro x w1 ⟨rfl, hb1⟩
  have hb2 : Below w.heap.size w (w1.alloc (.cells #[.pointer none, .int .i64 0, .int .i64 0] 50)) := hb1.trans (((Below.refl w1.heap.size w1).alloc (Nat.le_refl _) _).mono hb1.size)
  obtain ⟨h2, t2⟩ := H0.out.turn hb2
  have H2 := Lib.hid h2
  have T2 := Lib.hid t2
  clear h2 t2 hb2 hb1
  go_wp2
  go_ret3
  exact ⟨rfl, F, ⟨S, M, kk, E, V, q, H2.out, HFF.out⟩, by rw [HFF.out]; exact T2.out⟩
theorem g_Load {base : Nat} {w : World} {D : Nat} {d : DiskM} {F : Nat → Prop} (h : DkF base w D d F) (hb : DkN d 60000) (hw : base ≤ w.heap.size) (fr k : Int) (s : ByteArray) (n e : Nat) (hl : ldG d fr k = (sl s, n, e)) :
    Calls Try.prog 11 #[ptD D, .int .i64 fr, .int .i64 k] w fun x w' => x = .returned (.tuple #[.string s, .int .u64 (n : Int), .int .i64 (e : Int)]) ∧ ∃ F', DkF base w' D d F' ∧ Turn base w w' F F' := by
  obtain ⟨S, M, kk, E, V, q, h, hF⟩ := h
  have hsec := hb.sec
  have hdb := hb.b (by decide)
  unfold ldG at hl
  by_cases hm : mayS d fr k
  · rw [if_neg (fun h => h hm)] at hl
    obtain ⟨fn, rfl⟩ : ∃ fn : Nat, fr = (fn : Int) := ⟨fr.toNat, by have := hm.1; omega⟩
    obtain ⟨kn, rfl⟩ : ∃ kn : Nat, k = (kn : Int) := ⟨k.toNat, by have := hm.2.1; omega⟩
    rw [Int.toNat_natCast, Int.toNat_natCast] at hl
    cases hoff : offD d with
    | true =>
      rw [hoff, if_pos rfl] at hl
      obtain ⟨h1, h2⟩ := Prod.mk.inj hl
      obtain ⟨rfl, rfl⟩ := Prod.mk.inj h2
      obtain rfl : s = ⟨#[]⟩ := sl_inj h1.symm
      exact g_Load_by h hF hsec hw fn kn hm false 0 ⟨#[]⟩ 130 (fun wx hx => by rw [hF]; exact g_last_off hx hdb hoff fn kn hm) ⟨#[]⟩ 0 (.inr ⟨by decide, rfl, rfl⟩)
    | false =>
      rw [hoff, if_neg (by decide)] at hl
      cases ho : slLoad d fn kn with
      | none =>
        rw [ho] at hl
        obtain ⟨h1, h2⟩ := Prod.mk.inj hl
        obtain ⟨rfl, rfl⟩ := Prod.mk.inj h2
        obtain rfl : s = ⟨#[]⟩ := sl_inj h1.symm
        exact g_Load_by h hF hsec hw fn kn hm false 0 ⟨#[]⟩ 160 (fun wx hx => by rw [hF]; exact g_last_on hx hdb hoff fn kn hm none ho 160 rfl _ rfl) ⟨#[]⟩ 0 (.inr ⟨by decide, rfl, rfl⟩)
      | some x =>
        rw [ho] at hl
        obtain ⟨h1, h2⟩ := Prod.mk.inj hl
        obtain ⟨rfl, rfl⟩ := Prod.mk.inj h2
        have hs : tx x.2 = s := by rw [h1, tx_sl]
        exact g_Load_by h hF hsec hw fn kn hm true x.1 s 0 (fun wx hx => by rw [hF, ← hs]; exact g_last_on hx hdb hoff fn kn hm (some x) ho 0 rfl _ rfl) s x.1 (.inl ⟨rfl, rfl, rfl⟩)
  · rw [if_pos hm] at hl
    obtain ⟨h1, h2⟩ := Prod.mk.inj hl
    obtain ⟨rfl, rfl⟩ := Prod.mk.inj h2
    obtain rfl : s = ⟨#[]⟩ := sl_inj h1.symm
    exact g_Load_no h hF hsec fr k hm
end Go.Proofs.Ytccplgicfbfjiaa
