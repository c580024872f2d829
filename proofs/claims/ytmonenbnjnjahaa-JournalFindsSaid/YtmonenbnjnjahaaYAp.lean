/- Walks of the journal's blank, Append and Clear. -/
import Derived.Test.YtmonenbnjnjahaaYPu
import Derived.Test.YtmonenbnjnjahaaG4
namespace Go.Proofs.Ytmonenbnjnjahaa
open Go.RowKit Go.Shelf
set_option linter.unusedVariables false

theorem putD_zero (d : DiskM) (a : Nat) : putD d a 1 [0] = syncD (writeD d a (zerN 32)) := by
  have : chunksK 1 (fillJ [0] 1) = [zerN 32] := by decide
  unfold putD
  rw [this]
  rfl
theorem DkA.after {base : Nat} {w W W' : World} {D S M : Nat} {F F' : Nat → Prop} {d : DiskM} (h : DkA base W W' D S M F' d) (t : Turn base w W F F') : DkA base w W' D S M F d := by
  obtain ⟨k, E, V, q, h1, h2⟩ := h
  exact ⟨k, E, V, q, h1, t.trans h2⟩
set_option maxRecDepth 100000 in
theorem j_blank {w : World} {base D S M k : Nat} {E : DataW Unit} {V : Nat → Value} {q : Option (Nat × Int)} {d : DiskM} {K : Nat} (h : DkW w base D S M k E V q d) (hd : DkN d K) (hK : K ≤ 60000) (hcut : d.cut = false) (fr te a : Nat) (ha : a ≤ 5000) (hte : te ≤ d.sec.length) (d1 : DiskM) (hd1 : (if a < te then syncD (writeD d a (zerN 32)) else d) = d1) :
    Calls Try.prog 23 #[.agg (arV D fr te).toArray, .int .i64 (a : Int)] w fun x w' => x = .returned (.int .i64 0) ∧ DkA base w w' D S M (foot D S M V q) d1 := by
  have hw : base ≤ w.heap.size := by have := h.blk.lt; have := h.hD; omega
  obtain ⟨w1, hw1⟩ : ∃ w1, w.alloc (.cells (arV D fr te).toArray 49) = w1 := ⟨_, rfl⟩
  have hb1 : Below w.heap.size w w1 := by rw [← hw1]; exact (Below.refl w.heap.size w).alloc (Nat.le_refl _) _
  have k1 : Blk w1 w.heap.size 49 (arV D fr te) := by rw [← hw1]; exact Blk.new w _ _
  obtain ⟨h1, t1⟩ := h.turn hb1
  have c2 := k1.cell 2
  unfold arV ptD at c2
  simp only [List.getElem?_cons_zero, List.getElem?_cons_succ] at c2
  have K1 := Lib.hid k1
  by_cases hlt : a < te
  · rw [if_pos hlt] at hd1
    have g1 : ¬ (te : Int) ≤ (a : Int) := by omega
    have HP := Lib.hid (j_put h1 hd hK hcut fr te a 1 ⟨#[0]⟩ (by decide) (by decide) (by omega) d1 (by rw [show sl ⟨#[0]⟩ = [0] from rfl, putD_zero]; exact hd1))
    have T1 := Lib.hid t1
    clear h hd hK hcut ha hte hd1 hlt hb1 k1 h1 t1 hw
    go_enter Try.func23, Try.ntmps23
    go_wp2_with (refine wpList_load_blk rfl 49 _ rfl _ rfl K1.out Try.underlying49 rfl (by rw [size_ar]; rfl) ?_)
    (with_reducible refine HP.out.mono ?_)
    rintro e w2 ⟨rfl, h2⟩
    have H2 := Lib.hid (h2.after T1.out)
    clear h2
    go_wp2
    go_ret
    exact ⟨rfl, H2.out⟩
  · rw [if_neg hlt] at hd1
    subst hd1
    have g1 : (te : Int) ≤ (a : Int) := by omega
    have A1 : DkA base w w1 D S M (foot D S M V q) d := ⟨k, E, V, q, h1, t1⟩
    have HA := Lib.hid A1
    clear h hd hK hcut ha hte hlt hb1 k1 h1 t1 hw A1
    go_enter Try.func23, Try.ntmps23
    go_wp2
    go_ret
    exact ⟨rfl, HA.out⟩
set_option maxRecDepth 100000 in
theorem j_Clear {w : World} {base D S M k : Nat} {E : DataW Unit} {V : Nat → Value} {q : Option (Nat × Int)} {d : DiskM} {K : Nat} (h : DkW w base D S M k E V q d) (hd : DkN d K) (hK : K ≤ 60000) (hcut : d.cut = false) (fr te : Nat) (hlt : fr < te) (hte : te ≤ d.sec.length) (d1 : DiskM) (hd1 : clD d fr = d1) :
    Calls Try.prog 16 #[ptD D, .int .i64 (fr : Int), .int .i64 (te : Int)] w fun x w' => x = .returned (.int .i64 0) ∧ DkA base w w' D S M (foot D S M V q) d1 := by
  have hsec := hd.sec
  have HAR := Lib.hid (j_areaOf h hsec fr te hlt hte)
  have HBE := Lib.hid (fun (wx wy : World) (hx : DkW wx base D S M k E V q d) (hb : Below wx.heap.size wx wy) => hx.turn hb)
  have HBL := Lib.hid (fun (wx : World) (hx : DkW wx base D S M k E V q d) => j_blank hx hd hK hcut fr te fr (by omega) hte d1 (by rw [if_pos hlt]; exact hd1))
  have H0 := Lib.hid h
  unfold ptD at HAR ⊢
  clear h hd hK hcut hlt hte hd1 hsec
  go_enter Try.func16, Try.ntmps16
  go_wp2_with fail
  (with_reducible refine HAR.out.mono ?_)
  rintro e w2 ⟨rfl, hb2⟩
  obtain ⟨h2, t2⟩ := HBE.out w w2 H0.out hb2
  obtain ⟨w3, hw3⟩ : ∃ w3, (w2.alloc (.cells #[.pointer none, .int .i64 0, .int .i64 0] 49)).setRow w2.heap.size (arV D fr te).toArray = w3 := ⟨_, rfl⟩
  have k1 : Blk (w2.alloc (.cells #[.pointer none, .int .i64 0, .int .i64 0] 49)) w2.heap.size 49 [.pointer none, .int .i64 0, .int .i64 0] := Blk.new w2 _ _
  have k2 : Blk w3 w2.heap.size 49 (arV D fr te) := by rw [← hw3]; exact k1.row (arV D fr te) rfl
  have kb : Below w2.heap.size w2 w3 := by rw [← hw3]; exact below_setRow ((Below.refl w2.heap.size w2).alloc (Nat.le_refl _) _) (Nat.le_refl _) _
  obtain ⟨h3, t3⟩ := HBE.out w2 w3 h2 kb
  have T3 := Lib.hid (t2.trans t3)
  have K1 := Lib.hid k1
  have K2 := Lib.hid k2
  have HT := Lib.hid (HBL.out w3 h3)
  obtain ⟨AB, hAB⟩ : ∃ AB, w2.heap.size = AB := ⟨_, rfl⟩
  rw [hAB] at K1 K2
  rw [hAB] at hw3
  clear hb2 h2 t2 kb h3 t3 k1 k2 HBL HAR H0
  go_wp2_with (first | (refine wpList_store_blk rfl 49 _ _ rfl AB (arV D fr te) (by first | rfl | rw [hAB]) rfl K1.out (by rw [size_ar]; rfl) rfl (by simp [Value.oneCell', arV, ptD]) ?_; rw [hw3]) | (refine wpList_load_blk rfl 49 _ rfl AB rfl K2.out Try.underlying49 rfl (by rw [size_ar]; rfl) ?_))
  (with_reducible refine HT.out.mono ?_)
  rintro e w4 ⟨rfl, h4⟩
  have H4 := Lib.hid (h4.after T3.out)
  clear h4
  go_wp2
  go_ret
  exact ⟨rfl, H4.out⟩
end Go.Proofs.Ytmonenbnjnjahaa
