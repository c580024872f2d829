/- Walks of the slots' Save, and the record of the laws of stage 16. -/
import Derived.Test.YtccplgicfbfjiaaOgSa
import Derived.Test.YtccplgicfbfjiaaOgLd
import Derived.Test.YtccplgicfbfjiaaOgKit
namespace Go.Proofs.Ytccplgicfbfjiaa
open Go.RowKit
set_option linter.unusedVariables false

set_option maxRecDepth 100000 in
theorem g_Save_no {base : Nat} {w : World} {D S M kk : Nat} {E : DataW Unit} {V : Nat → Value} {q : Option (Nat × Int)} {d : DiskM} {F : Nat → Prop} (h : DkW w base D S M kk E V q d) (hF : F = foot D S M V q) (hsec : d.sec.length ≤ 4096) (fr k : Int) (hm : ¬ mayS d fr k) (u : ByteArray) :
    Calls Try.prog 9 #[ptD D, .int .i64 fr, .int .i64 k, .string u] w fun x w' => x = .returned (.int .i64 1) ∧ ∃ F', DkF base w' D d F' ∧ Turn base w w' F F' := by
  have HP := Lib.hid (g_pairOf_no h hsec fr k hm)
  have H0 := Lib.hid h
  have HFF := Lib.hid hF
  unfold ptD at HP ⊢
  clear h hm hsec hF
  go_enter Try.func9, Try.ntmps9
  go_wp2_with fail
  (with_reducible refine HP.out.mono ?_)
  rintro x w1 ⟨rfl, hb1⟩
  have hb2 : Below w.heap.size w (w1.alloc (.cells #[.pointer none, .int .i64 0, .int .i64 0] 50)) := hb1.trans (((Below.refl w1.heap.size w1).alloc (Nat.le_refl _) _).mono hb1.size)
  obtain ⟨h2, t2⟩ := H0.out.turn hb2
  have H2 := Lib.hid h2
  have T2 := Lib.hid t2
  clear h2 t2 hb2 hb1
  go_wp2
  go_ret
  exact ⟨rfl, F, ⟨S, M, kk, E, V, q, H2.out, HFF.out⟩, by rw [HFF.out]; exact T2.out⟩
set_option maxRecDepth 100000 in
theorem g_Save_cap {base : Nat} {w : World} {D S M kk : Nat} {E : DataW Unit} {V : Nat → Value} {q : Option (Nat × Int)} {d : DiskM} {F : Nat → Prop} (h : DkW w base D S M kk E V q d) (hF : F = foot D S M V q) (hsec : d.sec.length ≤ 4096) (fr k : Nat) (hm : mayS d fr k) (u : ByteArray) (hu : ¬ u.size ≤ slSize k) (hu2 : u.size ≤ 4096) :
    Calls Try.prog 9 #[ptD D, .int .i64 (fr : Int), .int .i64 (k : Int), .string u] w fun x w' => x = .returned (.int .i64 90) ∧ ∃ F', DkF base w' D d F' ∧ Turn base w w' F F' := by
  have HP := Lib.hid (g_pairOf_yes h hsec fr k hm)
  have H0 := Lib.hid h
  have HFF := Lib.hid hF
  obtain ⟨Z, hZ⟩ : ∃ Z, slSize k = Z := ⟨_, rfl⟩
  have HSZ := Lib.hid (fun wx => g_Size0 k wx (by have := hm.2.1; omega) (by have := hm.2.2.1; omega) Z hZ)
  rw [hZ] at hu
  have j1 : (Z : Int) < (u.size : Int) := by omega
  unfold prV ptD at HP
  unfold ptD
  clear h hm hsec hF hu hZ hu2
  go_enter Try.func9, Try.ntmps9
  go_wp2_with fail
  (with_reducible refine HP.out.mono ?_)
  rintro x w1 ⟨rfl, hb1⟩
  obtain ⟨w2, hw2⟩ : ∃ w2, w1.alloc (.cells #[.pointer (some ⟨D, 0, none⟩), .int .i64 (fr : Int), .int .i64 (k : Int)] 50) = w2 := ⟨_, rfl⟩
  have hb2 : Below w.heap.size w w2 := by rw [← hw2]; exact hb1.trans (((Below.refl w1.heap.size w1).alloc (Nat.le_refl _) _).mono hb1.size)
  obtain ⟨h2, t2⟩ := H0.out.turn hb2
  have H2 := Lib.hid h2
  have T2 := Lib.hid t2
  clear h2 t2 hb2 hb1
  go_wp2_with fail
  (with_reducible refine (HSZ.out _).mono ?_)
  rintro x w9 ⟨rfl, rfl⟩
  go_wp2
  go_ret
  exact ⟨rfl, F, ⟨S, M, kk, E, V, q, H2.out, HFF.out⟩, by rw [HFF.out]; exact T2.out⟩
theorem g_Save {base : Nat} {w : World} {D : Nat} {d : DiskM} {F : Nat → Prop} (h : DkF base w D d F) (hb : DkN d 60000) (hw : base ≤ w.heap.size) (fr k : Int) (s : ByteArray) (hs : s.size ≤ 4096) (hx : mayS d fr k → slNext d fr.toNat k.toNat < 2 ^ 64) (e : Nat) (d' : DiskM) (hg : svG d fr k (sl s) = (e, d')) :
    Calls Try.prog 9 #[ptD D, .int .i64 fr, .int .i64 k, .string s] w fun x w' => x = .returned (.int .i64 (e : Int)) ∧ ∃ F', DkF base w' D d' F' ∧ Turn base w w' F F' := by
  obtain ⟨S, M, kk, E, V, q, h, hF⟩ := h
  have hsec := hb.sec
  have hdb := hb.b (by decide)
  unfold svG at hg
  by_cases hm : mayS d fr k
  · rw [if_neg (fun h => h hm), sl_len] at hg
    obtain ⟨fn, rfl⟩ : ∃ fn : Nat, fr = (fn : Int) := ⟨fr.toNat, by have := hm.1; omega⟩
    obtain ⟨kn, rfl⟩ : ∃ kn : Nat, k = (kn : Int) := ⟨k.toNat, by have := hm.2.1; omega⟩
    have hx := hx hm
    rw [Int.toNat_natCast, Int.toNat_natCast] at hx
    simp only [Int.toNat_natCast] at hg
    by_cases hz : s.size ≤ slSize kn
    · rw [if_neg (fun h => h hz)] at hg
      cases hoff : offD d with
      | true =>
        rw [hoff, if_pos rfl] at hg
        obtain ⟨rfl, rfl⟩ := Prod.mk.inj hg
        exact g_Save_by h hF hsec hw fn kn hm false 0 ⟨#[]⟩ 130 (fun wx hx => by rw [hF]; exact g_last_off hx hdb hoff fn kn hm) (by decide) s hz 130 d (fun h => by rcases h with h | h <;> cases h) (.inr (.inr ⟨by decide, by decide, rfl, rfl⟩))
      | false =>
        rw [hoff, if_neg (by decide)] at hg
        cases ho : slLoad d fn kn with
        | none =>
          have hnx : slNext d fn kn = 0 + 1 := by
            unfold slLoad at ho
            unfold slNext nextSl
            rw [ho]
          unfold slAt at hg
          rw [hnx] at hg hx
          exact g_Save_by h hF hsec hw fn kn hm false 0 ⟨#[]⟩ 160 (fun wx hx => by rw [hF]; exact g_last_on hx hdb hoff fn kn hm none ho 160 rfl _ rfl) (by decide) s hz e d' (fun _ wx hwx => by rw [hF]; exact g_save hwx hb (by decide) fn kn hm (0 + 1) hx s hz _ rfl e d' hg) (.inr (.inl rfl))
        | some x =>
          have hnx : slNext d fn kn = x.1 + 1 := by
            unfold slLoad at ho
            unfold slNext nextSl
            rw [ho]
          unfold slAt at hg
          rw [hnx] at hg hx
          exact g_Save_by h hF hsec hw fn kn hm true x.1 (tx x.2) 0 (fun wx hx => by rw [hF]; exact g_last_on hx hdb hoff fn kn hm (some x) ho 0 rfl _ rfl) hx s hz e d' (fun _ wx hwx => by rw [hF]; exact g_save hwx hb (by decide) fn kn hm (x.1 + 1) hx s hz _ rfl e d' hg) (.inl rfl)
    · rw [if_pos hz] at hg
      obtain ⟨rfl, rfl⟩ := Prod.mk.inj hg
      exact g_Save_cap h hF hsec fn kn hm s hz hs
  · rw [if_pos hm] at hg
    obtain ⟨rfl, rfl⟩ := Prod.mk.inj hg
    exact g_Save_no h hF hsec fr k hm s
/-- the program's slots keep all that the laws of stage 16 ask -/
theorem theSlots : SlotKit2 where
  load := fun h hb hw fr k _ _ s n e hl => g_Load h hb hw fr k s n e hl
  save := fun h hb hw fr k _ _ s hs hx e d' hg => g_Save h hb hw fr k s hs hx e d' hg
  size := g_Size
end Go.Proofs.Ytccplgicfbfjiaa
