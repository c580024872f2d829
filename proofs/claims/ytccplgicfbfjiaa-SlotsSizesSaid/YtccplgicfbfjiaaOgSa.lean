/- Walks of the slots' Save. -/
import Derived.Test.YtccplgicfbfjiaaOgLd
import Derived.Test.YtccplgicfbfjiaaOgKit
namespace Go.Proofs.Ytccplgicfbfjiaa
open Go.RowKit
set_option linter.unusedVariables false

set_option maxRecDepth 100000 in
set_option maxHeartbeats 2000000 in
/-- Save, by what a pair's last text is -/
theorem g_Save_by {base : Nat} {w : World} {D S M kk : Nat} {E : DataW Unit} {V : Nat → Value} {q : Option (Nat × Int)} {d : DiskM} {F : Nat → Prop} (h : DkW w base D S M kk E V q d) (hF : F = foot D S M V q) (hsec : d.sec.length ≤ 4096) (hw : base ≤ w.heap.size) (fr k : Nat) (hm : mayS d fr k) (b : Bool) (n : Nat) (s : ByteArray) (er : Nat)
    (hla : ∀ wx, DkW wx base D S M kk E V q d → Calls Try.prog 18 #[.agg (prV D fr k).toArray] wx fun e w' => e = .returned (.tuple #[.agg #[.bool b, .int .u64 (n : Int), .string s], .int .i64 (er : Int)]) ∧ DkW w' base D S M kk E V q d ∧ Turn base wx w' F F)
    (hn : n + 1 < 18446744073709551616) (u : ByteArray) (hu : u.size ≤ slSize k) (e : Nat) (d' : DiskM)
    (hsv : er = 0 ∨ er = 160 → ∀ wx, DkW wx base D S M kk E V q d → Calls Try.prog 19 #[.agg (prV D fr k).toArray, .int .u64 ((n + 1 : Nat) : Int), .string u] wx fun x w' => x = .returned (.int .i64 (e : Int)) ∧ DkA base wx w' D S M F d')
    (hr : er = 0 ∨ er = 160 ∨ (er ≠ 0 ∧ er ≠ 160 ∧ e = er ∧ d' = d)) :
    Calls Try.prog 9 #[ptD D, .int .i64 (fr : Int), .int .i64 (k : Int), .string u] w fun x w' => x = .returned (.int .i64 (e : Int)) ∧ ∃ F', DkF base w' D d' F' ∧ Turn base w w' F F' := by
  have HP := Lib.hid (g_pairOf_yes h hsec fr k hm)
  have HL : Hid (∀ i, F i → i < w.heap.size) := Lib.hid (fun i hi => (h.lt i (by rw [← hF]; exact hi)).2)
  have HKE := Lib.hid (fun (wa wb : World) (hx : DkW wa base D S M kk E V q d) (hb : Below w.heap.size wa wb) => hx.keep (w' := wb) fun i hi => hb.block i (h.lt i hi).2)
  have H0 := Lib.hid h
  have HW := Lib.hid hw
  have HFF := Lib.hid hF
  have HLA := Lib.hid hla
  have hval : ((n + 1 : Nat) : Int) = (n : Int) + 1 := by omega
  rw [hval] at hsv
  have HSV := Lib.hid hsv
  obtain ⟨Z, hZ⟩ : ∃ Z, slSize k = Z := ⟨_, rfl⟩
  have HSZ := Lib.hid (fun wx => g_Size0 k wx (by have := hm.2.1; omega) (by have := hm.2.2.1; omega) Z hZ)
  rw [hZ] at hu
  have hz1 : Z ≤ 1016 := by rw [← hZ]; unfold slSize; omega
  have j1 : ¬ (Z : Int) < (u.size : Int) := by omega
  have J2 : Hid (IntKind.u64.wrap ((n : Int) + 1) = (n : Int) + 1) := Lib.hid (by rw [IntKind.wrap_u64]; omega)
  have HR := Lib.hid hr
  clear hval hsv hu hz1 hZ hn hr
  unfold prV ptD at HP HLA
  unfold ptD
  clear h hw hm hsec hla hF
  go_enter Try.func9, Try.ntmps9
  go_wp2_with fail
  (with_reducible refine HP.out.mono ?_)
  rintro x w1 ⟨rfl, hb1⟩
  obtain ⟨y, hy⟩ : ∃ y, w1.heap.size = y := ⟨_, rfl⟩
  have hwy : w.heap.size ≤ y := by rw [← hy]; exact hb1.size
  obtain ⟨w2, hw2⟩ : ∃ w2, w1.alloc (.cells #[.pointer (some ⟨D, 0, none⟩), .int .i64 (fr : Int), .int .i64 (k : Int)] 50) = w2 := ⟨_, rfl⟩
  have kP : Blk w2 y 50 [.pointer (some ⟨D, 0, none⟩), .int .i64 (fr : Int), .int .i64 (k : Int)] := by rw [← hw2, ← hy]; exact Blk.new' w1 50 [.pointer (some ⟨D, 0, none⟩), .int .i64 (fr : Int), .int .i64 (k : Int)] rfl
  have b2 : Below w.heap.size w w2 := by rw [← hw2]; exact hb1.trans (((Below.refl w1.heap.size w1).alloc (Nat.le_refl _) _).mono hb1.size)
  have KP := Lib.hid kP
  have B2 := Lib.hid b2
  have HWY := Lib.hid hwy
  have H2 := Lib.hid (HKE.out _ _ H0.out b2)
  clear hb1 kP b2 hwy
  go_wp2_with fail
  (with_reducible refine (HSZ.out _).mono ?_)
  rintro x w9 ⟨rfl, rfl⟩
  go_wp2_with (refine wpList_load_blk rfl 50 _ rfl y (by first | rfl | rw [hy]) KP.out Try.underlying50 rfl (by rw [size_pair]; rfl) ?_)
  (with_reducible refine (HLA.out w9 H2.out).mono ?_)
  rintro x w3 ⟨rfl, h3, t3⟩
  obtain ⟨v, hv⟩ : ∃ v, w3.heap.size = v := ⟨_, rfl⟩
  obtain ⟨w4, hw4⟩ : ∃ w4, w3.alloc (.cells #[.bool b, .int .u64 (n : Int), .string s] 54) = w4 := ⟨_, rfl⟩
  have kS : Blk w4 v 54 [.bool b, .int .u64 (n : Int), .string s] := by rw [← hw4, ← hv]; exact Blk.new' w3 54 [.bool b, .int .u64 (n : Int), .string s] rfl
  have hwv : w.heap.size ≤ v := by rw [← hv]; exact Nat.le_trans B2.out.size t3.b.size
  have b4 : Below w.heap.size w3 w4 := by rw [← hw4]; exact ((Below.refl w3.heap.size w3).alloc (Nat.le_refl _) _).mono (by rw [hv]; exact hwv)
  have h4 := HKE.out _ _ h3 b4
  have t4 : Turn base w w4 F F := ((Turn.of_below B2.out HW.out).trans t3).then b4 HW.out (fun i hi => .inl hi)
  have kP4 : Blk w4 y 50 [.pointer (some ⟨D, 0, none⟩), .int .i64 (fr : Int), .int .i64 (k : Int)] := by
    have hyF : ¬ F y := fun hf => by have := HL.out y hf; have := HWY.out; omega
    have := t3.blk KP.out hyF
    rw [← hw4]
    exact this.alloc _
  have c1 := kS.cell 1
  simp only [List.getElem?_cons_zero, List.getElem?_cons_succ] at c1
  have H4 := Lib.hid h4
  have T4 := Lib.hid t4
  have KP4 := Lib.hid kP4
  clear h3 t3 kS hwv b4 h4 t4 KP kP4
  have hend : ∀ (w5 : World), DkA base w4 w5 D S M F d' → ∃ F', DkF base w5 D d' F' ∧ Turn base w w5 F F' := fun w5 ⟨k5, E5, V5, q5, h5, t5⟩ => ⟨_, ⟨S, M, k5, E5, V5, q5, h5, rfl⟩, T4.out.trans t5⟩
  have HEND := Lib.hid hend
  clear hend
  rcases HR.out with rfl | rfl | ⟨h1, h2, rfl, rfl⟩
  · have HS := Lib.hid (HSV.out (.inl rfl) w4 H4.out)
    unfold prV ptD at HS
    have j2 := J2.out
    go_wp2_with (refine wpList_load_blk rfl 50 _ rfl y (by first | rfl | rw [hy]) KP4.out Try.underlying50 rfl (by rw [size_pair]; rfl) ?_)
    (with_reducible refine HS.out.mono ?_)
    rintro x w5 ⟨rfl, h5⟩
    go_wp2
    go_ret
    exact ⟨rfl, HEND.out _ h5⟩
  · have HS := Lib.hid (HSV.out (.inr rfl) w4 H4.out)
    unfold prV ptD at HS
    have j2 := J2.out
    go_wp2_with (refine wpList_load_blk rfl 50 _ rfl y (by first | rfl | rw [hy]) KP4.out Try.underlying50 rfl (by rw [size_pair]; rfl) ?_)
    (with_reducible refine HS.out.mono ?_)
    rintro x w5 ⟨rfl, h5⟩
    go_wp2
    go_ret
    exact ⟨rfl, HEND.out _ h5⟩
  · have g1 : ((e : Int) != 0) = true := by simpa using h1
    have g2 : ((e : Int) != 160) = true := by simp; omega
    go_wp2
    go_ret
    exact ⟨rfl, F, ⟨S, M, kk, E, V, q, H4.out, HFF.out⟩, T4.out⟩
end Go.Proofs.Ytccplgicfbfjiaa
