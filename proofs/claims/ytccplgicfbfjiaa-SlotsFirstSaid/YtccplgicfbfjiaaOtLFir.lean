/-
  For all texts, numbers and lists of bytes: wherever the power goes in a save, the slot of the text ahead of it is not written; so it is loaded, if the new one is not. No condition.
-/
import Derived.Test.YtccplgicfbfjiaaRows
import Derived.Test.YtccplgicfbfjiaaOgShw
import Derived.Test.YtccplgicfbfjiaaOgThe
import Derived.Test.YtccplgicfbfjiaaG1
import Derived.Test.YtccplgicfbfjiaaG4
import Derived.Maps.AppendAt
import Derived.IntWalk
import Derived.BigQuiet
import Derived.ShutString
import Derived.ChangeOld
namespace Go.Proofs.Ytccplgicfbfjiaa.slotsFirst
open Go.ChangeShapes Go.WideShapes Go.ChangeAt Go.RowKit
open Go.ChangeMaps (open_string shut_string)
set_option linter.unusedVariables false

def sliceN : Value → Nat | .slice _ n _ => n | _ => 0
/-- what is safe of the first sectors -/
def wasL (d : DiskM) (i : Nat) : List (List Nat) := (List.range i).map fun k => d.sec.getD k []
theorem was_succ (d : DiskM) (i : Nat) : wasL d (i + 1) = wasL d i ++ [d.sec.getD i []] := by unfold wasL; rw [List.range_succ, List.map_append]; rfl
theorem was_len (d : DiskM) (i : Nat) : (wasL d i).length = i := by simp [wasL]
theorem was_get (d : DiskM) {i n : Nat} (h : i < n) : (wasL d n).getD i [] = d.sec.getD i [] := range_getD h
set_option maxHeartbeats 4000000 in
set_option maxRecDepth 100000 in
theorem walkK (K : SlotKit2) (old new : ByteArray) (y : Int) (keep : List Nat) (p3 : Option Addr) (cap3 : Nat) (hy : (Lit.int .u8 y).wf = true) (hK : Bys keep) (w : World) (hS3 : Sl w 1 (.slice p3 keep.length cap3) (rowsU .u8 keep)) :
    Calls Try.prog 4 #[.string old, .string new, .int .u8 y, .slice p3 keep.length cap3] w fun e w' => e = .returned (.bool true) ∧ Below w.heap.size w w' := by
  have HSh := Lib.hid (fun w => l16_shown K.old w)
  obtain ⟨na, rfl, hna⟩ := nat_u8 y hy
  clear hy
  by_cases h0 : 200 < old.size ∨ 200 < new.size ∨ 50 < keep.length
  · by_cases h1 : 200 < old.size
    · have g0 : (200 : Int) < (old.size : Int) := by omega
      have g0' : decide ((200 : Int) < (old.size : Int)) = true := decide_eq_true g0
      clear h0 h1 hS3 hK
      go_enter Try.func4, Try.ntmps4
      go_wp2_with (go_at_call 7; (with_reducible refine (HSh.out _).mono ?_); rintro e w1 ⟨rfl, hb1⟩)
      go_ret
      exact ⟨rfl, hb1⟩
    · have g0 : ¬ (200 : Int) < (old.size : Int) := by omega
      have g0' : decide ((200 : Int) < (old.size : Int)) = false := decide_eq_false g0
      by_cases h2 : 200 < new.size
      · have g1 : (200 : Int) < (new.size : Int) := by omega
        have g1' : decide ((200 : Int) < (new.size : Int)) = true := decide_eq_true g1
        clear h0 h1 h2 hS3 hK
        go_enter Try.func4, Try.ntmps4
        go_wp2_with (go_at_call 7; (with_reducible refine (HSh.out _).mono ?_); rintro e w1 ⟨rfl, hb1⟩)
        go_ret
        exact ⟨rfl, hb1⟩
      · have g1 : ¬ (200 : Int) < (new.size : Int) := by omega
        have g1' : decide ((200 : Int) < (new.size : Int)) = false := decide_eq_false g1
        have g2 : (50 : Int) < (keep.length : Int) := by omega
        have g2' : decide ((50 : Int) < (keep.length : Int)) = true := decide_eq_true g2
        clear h0 h1 h2 hS3 hK
        go_enter Try.func4, Try.ntmps4
        go_wp2_with (go_at_call 7; (with_reducible refine (HSh.out _).mono ?_); rintro e w1 ⟨rfl, hb1⟩)
        go_ret
        exact ⟨rfl, hb1⟩
  have g0 : ¬ (200 : Int) < (old.size : Int) := by omega
  have g0' : decide ((200 : Int) < (old.size : Int)) = false := decide_eq_false g0
  have g1 : ¬ (200 : Int) < (new.size : Int) := by omega
  have g1' : decide ((200 : Int) < (new.size : Int)) = false := decide_eq_false g1
  have g2 : ¬ (50 : Int) < (keep.length : Int) := by omega
  have g2' : decide ((50 : Int) < (keep.length : Int)) = false := decide_eq_false g2
  have w0 : IntKind.i64.wrap (na : Int) = (na : Int) := IntWalk.i64_in _ (by omega)
  obtain ⟨r, hr⟩ : ∃ r, na % 12 = r := ⟨_, rfl⟩
  have e1 : (na : Int).tmod 12 = (r : Int) := by rw [Int.tmod_eq_emod_of_nonneg (by omega)]; omega
  -- the disk, till the power is cut
  have n0 := dkj_new (n := 20) (by decide)
  have m0 : mayS (newD 20) ((0 : Nat) : Int) ((10 : Nat) : Int) := ⟨by decide, by decide, by decide, by simp [newD]⟩
  have i0 := sl_new (m := 20) (fr := 0) (k := 10) (by decide)
  have hso : (sl old).length ≤ slSize 10 := by rw [sl_len]; unfold slSize; omega
  have i1 := sl_save i0 (by decide) (by decide) (s := sl old) (sl_bys old) hso
  have n1 := dkj_save n0 (fr := 0) (k := 10) (by decide) (by simp [newD]) (sl_bys old)
  have l1 := sv_len (newD 20) 0 10 (sl old)
  have z1 : ∀ i, i < 10 → readD (svD (newD 20) 0 10 (sl old)) i = zerN 32 := fun i hi => by
    rw [sv_read (newD 20) (by decide) (sl old) (by simp [newD]; omega) (.inl (by unfold slAt; rw [i0.next]; exact hi)), read_new (by omega)]
  have q0 := svG_on n0 m0 (sl old)
  have hv0 : svE 10 (sl old).length = 0 := by unfold svE; rw [if_pos hso]
  rw [hv0] at q0
  obtain ⟨d1, hd1⟩ : ∃ d1, svD (newD 20) 0 10 (sl old) = d1 := ⟨_, rfl⟩
  rw [hd1] at q0 i1 n1 l1 z1
  have hl1 : d1.sec.length = 20 := by rw [l1]; simp [newD]
  have nx0 : mayS (newD 20) ((0 : Nat) : Int) ((10 : Nat) : Int) → slNext (newD 20) ((0 : Nat) : Int).toNat ((10 : Nat) : Int).toNat < 2 ^ 64 := fun _ => by rw [Int.toNat_natCast, Int.toNat_natCast, i0.next]; decide
  -- the save that breaks off
  have ic : SlOk (cutD d1 (r : Int)) 0 10 1 (sl old) := sl_same i1 rfl fun i _ _ => rfl
  have nx1 : mayS (cutD d1 (r : Int)) ((0 : Nat) : Int) ((10 : Nat) : Int) → slNext (cutD d1 (r : Int)) ((0 : Nat) : Int).toNat ((10 : Nat) : Int).toNat < 2 ^ 64 := fun _ => by rw [Int.toNat_natCast, Int.toNat_natCast, ic.next]; decide
  have nc := dkn_cut n1.n (r : Int)
  obtain ⟨er, d3, hg3⟩ : ∃ er d3, svG (cutD d1 (r : Int)) ((0 : Nat) : Int) ((10 : Nat) : Int) (sl new) = (er, d3) := ⟨_, _, rfl⟩
  have n3 := dkn_svG nc (sl_bys new) hg3
  obtain ⟨s1, s2, s3⟩ := slots_first i1 n1 hl1 z1 (sl_bys new) (by rw [sl_len]; omega) (r : Int) keep hg3
  have n4 := dkn_crash n3 keep
  have l4 : (crashD d3 keep).sec.length = 20 := by rw [crash_len]; exact s2
  have m4 : mayS (crashD d3 keep) ((0 : Nat) : Int) ((10 : Nat) : Int) := ⟨by decide, by decide, by decide, by rw [l4]; decide⟩
  have s4 : ∃ (n : Nat) (S : ByteArray), slLoad (crashD d3 keep) 0 10 = some (n, sl S) ∧ ((er = 0 ∧ S = new ∧ n = 2) ∨ (er = 130 ∧ (n = 1 ∧ S = old ∨ 2 ≤ n))) := by
    rcases s3 with ⟨e, h⟩ | ⟨e, n, s, h, hc⟩
    · exact ⟨2, new, h, .inl ⟨e, rfl, rfl⟩⟩
    · have hb := load_bys n4.bys h
      refine ⟨n, tx s, by rw [sl_tx hb]; exact h, .inr ⟨e, hc.imp (fun ⟨h1, h2⟩ => ⟨h1, by rw [h2, tx_sl]⟩) id⟩⟩
  obtain ⟨n, S, hld, hcs⟩ := s4
  have ld4 := ldG_some (off_crash d3 keep) m4 hld
  obtain ⟨d4, hd4⟩ : ∃ d4, crashD d3 keep = d4 := ⟨_, rfl⟩
  rw [hd4] at s1 n4 l4 m4 ld4
  have hy1 : ∀ i, Bys (d1.sec.getD i []) := getD_secB n1.n.bys.1
  have HN := Lib.hid (fun (wx : World) (h : w.heap.size ≤ wx.heap.size) => d_New_yes 20 wx w.heap.size (by decide) (by decide) h)
  have HS0 := Lib.hid (fun (wx : World) (D : Nat) (F : Nat → Prop) (h : DkF w.heap.size wx D (newD 20) F) (hw : w.heap.size ≤ wx.heap.size) => K.save h (n0.n.more (by decide)) hw ((0 : Nat) : Int) ((10 : Nat) : Int) (by decide) (by decide) old (by omega) nx0 0 d1 q0)
  have HSF1 := Lib.hid (fun (wx : World) (D : Nat) (F : Nat → Prop) (h : DkF w.heap.size wx D d1 F) (i : Nat) (hi : i < 20) => f_Safe h (n1.n.b (by decide)) (i : Int) (wf_small i (by omega)) (tx (d1.sec.getD i [])) (by rw [sf_in (by rw [hl1]; exact hi), sl_tx (hy1 i)]))
  have HOF := Lib.hid (fun (wx : World) (D : Nat) (F : Nat → Prop) (h : DkF w.heap.size wx D d1 F) => f_Off h (r : Int) (wf_small r (by omega)))
  have HS1 := Lib.hid (fun (wx : World) (D : Nat) (F : Nat → Prop) (h : DkF w.heap.size wx D (cutD d1 (r : Int)) F) (hw : w.heap.size ≤ wx.heap.size) => K.save h (nc.more (by decide)) hw ((0 : Nat) : Int) ((10 : Nat) : Int) (by decide) (by decide) new (by omega) nx1 er d3 hg3)
  have HCR := Lib.hid (fun (wx : World) (D : Nat) (F : Nat → Prop) (h : DkF w.heap.size wx D d3 F) (hw : Below w.heap.size w wx) => f_Crash h (n3.b (by decide)) keep p3 cap3 (by omega) hK (hS3.below hw) (fun hn a e => hS3.lt a e hn) d4 hd4)
  have HSF4 := Lib.hid (fun (wx : World) (D : Nat) (F : Nat → Prop) (h : DkF w.heap.size wx D d4 F) (i : Nat) (h10 : 10 ≤ i) (hi : i < 20) => f_Safe h (n4.b (by decide)) (i : Int) (wf_small i (by omega)) (tx (d1.sec.getD i [])) (by rw [sf_in (by rw [l4]; exact hi), s1 i h10 hi, sl_tx (hy1 i)]))
  have HLD := Lib.hid (fun (wx : World) (D : Nat) (F : Nat → Prop) (h : DkF w.heap.size wx D d4 F) (hw : w.heap.size ≤ wx.heap.size) => K.load h (n4.more (by decide)) hw ((0 : Nat) : Int) ((10 : Nat) : Int) (by decide) (by decide) S n 0 ld4)
  have HCS := Lib.hid hcs
  obtain ⟨i0', hi0, hz0, hz1, hz2⟩ := info_parts2 info_str
  clear h0 n0 m0 i0 hso i1 n1 l1 z1 q0 hv0 hd1 hl1 nx0 ic nx1 nc hg3 n3 s1 s2 s3 n4 l4 m4 hld hcs ld4 hd4 hy1 hr hna hS3 hK
  generalize keep.length = nk at *
  go_enter Try.func4, Try.ntmps4
  go_wp2_with fail
  (with_reducible refine (HSh.out _).mono ?_)
  rintro e v1 ⟨rfl, c1⟩
  have B1 := Lib.hid c1
  clear c1
  go_wp2_with fail
  refine (HN.out v1 B1.out.size).mono ?_
  rintro e v2 ⟨D, F2, rfl, r2, c2, _⟩
  have R2 := Lib.hid r2
  have B2 := Lib.hid (B1.out.trans (c2.mono B1.out.size))
  clear r2 c2
  unfold ptD
  go_wp2_with fail
  refine (HS0.out v2 D F2 R2.out B2.out.size).mono ?_
  rintro e v3 ⟨rfl, F3, r3, t3⟩
  have R3 := Lib.hid r3
  have B3 := Lib.hid (B2.out.trans t3.b)
  clear r3 t3
  have kr := R3.out.below ((Below.refl v3.heap.size v3).alloc (Nat.le_refl _) (.cells #[] 9))
  have kb := B3.out.alloc B3.out.size (.cells #[] 9)
  have ko : OwnR (v3.alloc (.cells #[] 9)) w.heap.size 9 1 (.slice (some ⟨v3.heap.size, 0, none⟩) 0 0) (rowsS (wasL d1 0)) := OwnR.empty v3 _ _ _ B3.out.size
  go_wp2
  generalize World.alloc v3 (.cells #[] 9) = v4 at *
  generalize hg0 : v3.heap.size = g4 at *
  clear hg0
  go_loopw [10, 11] (fun v i wr => ∃ (j : Nat) (p : Option Addr) (cap : Nat), i = .int .i64 (j : Int) ∧ v = .slice p j cap ∧ OwnR wr w.heap.size 9 1 (.slice p j cap) (rowsS (wasL d1 j)) ∧ j ≤ 20 ∧ DkF w.heap.size wr D d1 F3 ∧ Below w.heap.size w wr) (fun _ i _ => 20 - (intOf i).toNat)
  case atStart => exact ⟨0, _, 0, rfl, rfl, ko, by decide, kr, kb⟩
  case round =>
    obtain ⟨j, p, cap, rfl, rfl, go, hj, gr, gb⟩ := hrel
    clear ko kr kb
    by_cases hlt : j < 20
    · have d1' : (j : Int) < 20 := by omega
      have HSA := Lib.hid (HSF1.out wr D F3 gr j hlt)
      have hsn := was_succ d1 j
      obtain ⟨X, hX⟩ : ∃ X, tx (d1.sec.getD j []) = X := ⟨_, rfl⟩
      have hrs : rowsS (wasL d1 (j + 1)) = rowsS (wasL d1 j) ++ [[.string X]] := by rw [hsn, rowsS_app, ← hX]; rfl
      have hll : (rowsS (wasL d1 j)).length = j := by rw [rowsS_len, was_len]
      rw [hX] at HSA
      have HO := Lib.hid go
      have HR := Lib.hid gr
      have HB := Lib.hid gb
      have HRS := Lib.hid hrs
      have HLL := Lib.hid hll
      have HLT := Lib.hid hlt
      clear hsn hX hrs hll go gr gb hlt hj
      obtain ⟨R, hR⟩ : ∃ R, rowsS (wasL d1 j) = R := ⟨_, rfl⟩
      rw [hR] at HO HRS HLL
      clear hR
      unfold ptD at HSA
      go_wp2_with fail
      (with_reducible refine HSA.out.mono ?_)
      rintro e w5 ⟨rfl, hb5⟩
      have o5 := HO.out.below hb5 (fun b hb => (HO.out.lt b hb).2)
      have hown : (w5.alloc (.cells #[.string X] 9)).ownsRow w.heap.size 9 1 (.slice p j cap) j R.flatten := by
        have := (o5.alloc (.cells #[.string X] 9)).2
        rw [HLL.out] at this
        exact this
      have hnew : ∀ jj u, [Value.string X][jj]? = some u → (w5.alloc (.cells #[.string X] 9)).cell? ((⟨w5.heap.size, 0, none⟩ : Addr).add jj) = some u := fun jj u h => by
        rw [Addr.add_mid]
        exact (Blk.new' w5 9 [Value.string X] rfl).whole jj u h
      have hone : ∀ u ∈ [Value.string X], u.oneCell' = true := by simp [Value.oneCell']
      have h63 : j + 1 ≤ maxLen := by have := HLT.out; simp [maxLen]; omega
      have hbyy : (j + 1) * 16 ≤ 140737488355328 := by have := HLT.out; omega
      have b5 := HB.out.trans (hb5.mono HB.out.size)
      have hbs := b5.size
      have hbase : w.heap.size ≤ (w5.alloc (.cells #[.string X] 9)).heap.size := by simp; omega
      have hgl := fun i hi => (o5.lt i hi).1
      have kw := b5.alloc hbs (.cells #[.string X] 9)
      have kr := (HR.out.below hb5).below ((Below.refl w5.heap.size w5).alloc (Nat.le_refl _) (.cells #[.string X] 9))
      have hnf := kr.notTy (by decide) (by decide) (by decide) hown
      have h4k := o5.1
      have HRow := Lib.hid hown
      have HNew := Lib.hid hnew
      have HOne := Lib.hid hone
      have H63 := Lib.hid h63
      have HBY := Lib.hid hbyy
      have HBS := Lib.hid hbase
      have Hgl := Lib.hid hgl
      have HKR := Lib.hid kr
      have HKW := Lib.hid kw
      have HNF := Lib.hid hnf
      have H4K := Lib.hid h4k
      clear hown hnew hone h63 hbyy hbase hgl kr kw hnf h4k b5 hbs o5 hb5
      go_wp2_with (at_builtin; refine wpList_append_own_at _ rfl _ _ 22 rfl w.heap.size 9 i0' (.string ⟨#[]⟩) 1 16 Try.underlying22 hi0 hz0 hz1 hz2 rfl (by decide) _ j _ rfl HRow.out ⟨w5.heap.size, 0, none⟩ 1 1 [.string X] rfl rfl HNew.out HOne.out H63.out HBY.out HBS.out ?_; intro v5 w6 hown5 hg5 hnil5 hat5; obtain ⟨p5, cap5, rfl⟩ := own_slice hown5)
      go_roundw
      case rel =>
        have o6 : OwnR w6 w.heap.size 9 1 (.slice p5 (j + 1) cap5) (rowsS (wasL d1 (j + 1))) := by
          rw [HRS.out]
          refine ⟨fun r hr => ?_, ?_⟩
          · rcases List.mem_append.1 hr with hr | hr
            · exact H4K.out r hr
            · rw [List.mem_singleton.1 hr]; rfl
          · rw [List.length_append, HLL.out, List.flatten_append]
            exact hown5
        exact ⟨j + 1, p5, cap5, by go_num, rfl, o6, HLT.out, HKR.out.grown hg5 HNF.out, HKW.out.grown hg5 HKW.out.size (fun i hi => Hgl.out i hi)⟩
      case measure => (have := HLT.out; simp [intOf]; omega)
    · obtain rfl : j = 20 := by omega
      have HO := Lib.hid go
      have R4 := Lib.hid gr
      have B4 := Lib.hid gb
      clear go gr gb hlt hj HSF1
      have HOFF := Lib.hid (HOF.out wr D F3 R4.out)
      unfold ptD at HOFF
      go_wp2_with fail
      (with_reducible refine HOFF.out.mono ?_)
      rintro e v5 ⟨rfl, F5, r5, t5⟩
      have O5 := Lib.hid (R4.out.ownS t5 HO.out)
      have R5 := Lib.hid r5
      have B5 := Lib.hid (B4.out.trans t5.b)
      clear r5 t5 HO HOFF HOF
      go_wp2_with fail
      refine (HS1.out v5 D F5 R5.out B5.out.size).mono ?_
      rintro e v6 ⟨rfl, F6, r6, t6⟩
      have O6 := Lib.hid (R5.out.ownS t6 O5.out)
      have R6 := Lib.hid r6
      have B6 := Lib.hid (B5.out.trans t6.b)
      clear r6 t6 O5
      have HCC := Lib.hid (HCR.out v6 D F6 R6.out B6.out)
      unfold ptD at HCC
      go_wp2_with fail
      (with_reducible refine HCC.out.mono ?_)
      rintro e v7 ⟨rfl, F7, r7, t7⟩
      have o7 := R6.out.ownS t7 O6.out
      have r7b := B6.out.trans t7.b
      clear t7 O6 HCC HCR HS1
      go_wp2_with fail
      go_loopw [13] (fun i wr => ∃ j : Nat, i = .int .i64 (j : Int) ∧ 10 ≤ j ∧ j ≤ 20 ∧ OwnR wr w.heap.size 9 1 (.slice p 20 cap) (rowsS (wasL d1 20)) ∧ DkF w.heap.size wr D d4 F7 ∧ Below w.heap.size w wr) (fun i _ => 20 - (intOf i).toNat)
      case atStart => exact ⟨10, rfl, by decide, by decide, o7, r7, r7b⟩
      case round =>
        obtain ⟨j, rfl, hj1, hj2, go, gr, gb⟩ := hrel
        clear o7 r7 r7b
        by_cases hlt : j < 20
        · have d2' : (j : Int) < 20 := by omega
          have d3' : (10 : Int) ≤ (j : Int) := by omega
          obtain ⟨ad, rfl, hc⟩ := SlS.cell go.sl (j := j) (by rw [was_len]; exact hlt)
          rw [was_get d1 hlt] at hc
          obtain ⟨X, hX⟩ : ∃ X, tx (d1.sec.getD j []) = X := ⟨_, rfl⟩
          rw [hX] at hc
          have hcl : ∀ wx, NewBut wr wx → wx.cell? (ad.add j) = some (.string X) := fun wx hx => by
            have := (go.below hx (fun b hb => (go.lt b hb).2)).sl
            obtain ⟨ad2, e2, hc2⟩ := SlS.cell this (j := j) (by rw [was_len]; exact hlt)
            cases e2
            rw [was_get d1 hlt, hX] at hc2
            exact hc2
          have hsa : ∀ wx, NewBut wr wx → Calls Try.prog 12 #[.pointer (some ⟨D, 0, none⟩), .int .i64 (j : Int)] wx fun e w' => e = .returned (.string X) ∧ NewBut wr w' := fun wx hx => by
            have := HSF4.out wx D F7 (gr.below hx) j hj1 hlt
            rw [hX] at this
            exact this.mono fun _ _ ⟨e1, e2⟩ => ⟨e1, hx.trans (e2.mono hx.size)⟩
          have HCL := Lib.hid hcl
          have HSA := Lib.hid hsa
          have HGO := Lib.hid go
          have HGR := Lib.hid gr
          have HGB := Lib.hid gb
          have HJ := Lib.hid (show 10 ≤ j ∧ j < 20 from ⟨hj1, hlt⟩)
          have hsame := txt_same X
          have hsame2 : (X.toList != X.toList) = false := by simp
          clear hcl hsa go gr gb hj1 hj2 hlt hX hc
          go_wp2_with fail
          refine region_quiet_tail (C := NewBut wr) 7 mixed (by kernel_rfl) (show Below _ _ _ from (Below.refl _ _).drew) ?_
          simp only [List.take_succ_cons, List.take_zero, List.drop_succ_cons, List.drop_zero]
          repeat (first | (refine wpQuiet_load_one rfl 9 _ rfl (ad.add j) rfl (.string X) HCL.out Try.underlying9 rfl ?_) | go_big_quiet_step (fail) | (refine wpQuiet_step (fun K' hK' => ?_); go_simp; first | (refine hK' _ ?_; clear hK' K') | (refine ⟨_, fun _ _ => rfl, hK' _ ?_⟩; clear hK' K') | ((with_reducible refine ⟨_, fun wx hx => HSA.out wx hx, hK' _ ?_⟩); clear hK' K')))
          refine wpQuiet_nil ?_
          intro w6 hb6
          have O6 := Lib.hid (HGO.out.below hb6 (fun b hb => (HGO.out.lt b hb).2))
          have R6' := Lib.hid (HGR.out.below hb6)
          have B6' := Lib.hid (HGB.out.trans (Below.mono hb6 HGB.out.size))
          clear hb6
          go_wp2
          go_roundw
          case rel => exact ⟨j + 1, by go_num, by have := HJ.out; omega, HJ.out.2, O6.out, R6'.out, B6'.out⟩
          case measure => (have := HJ.out; simp [intOf]; omega)
        · obtain rfl : j = 20 := by omega
          have R8 := Lib.hid gr
          have B8 := Lib.hid gb
          clear go gr gb hj1 hj2 hlt HSF4
          have hsold := txt_same old
          have hsnew := txt_same new
          rcases HCS.out with ⟨rfl, rfl, rfl⟩ | ⟨rfl, ⟨rfl, rfl⟩ | hn2⟩
          · go_wp2_with fail
            refine (HLD.out wr D F7 R8.out B8.out.size).mono ?_
            rintro e v9 ⟨rfl, F9, r9, t9⟩
            have B9 := Lib.hid (B8.out.trans t9.b)
            clear r9 t9
            go_wp2
            go_ret
            exact ⟨rfl, B9.out⟩
          · go_wp2_with fail
            refine (HLD.out wr D F7 R8.out B8.out.size).mono ?_
            rintro e v9 ⟨rfl, F9, r9, t9⟩
            have B9 := Lib.hid (B8.out.trans t9.b)
            clear r9 t9
            go_wp2
            go_ret
            exact ⟨rfl, B9.out⟩
          · have q1 : ((n : Int) == 1) = false := by rw [beq_eq_false_iff_ne]; omega
            have q2 : (2 : Int) ≤ (n : Int) := by omega
            have q2' : decide ((2 : Int) ≤ (n : Int)) = true := decide_eq_true q2
            clear hn2
            go_wp2_with fail
            refine (HLD.out wr D F7 R8.out B8.out.size).mono ?_
            rintro e v9 ⟨rfl, F9, r9, t9⟩
            have B9 := Lib.hid (B8.out.trans t9.b)
            clear r9 t9
            go_wp2
            go_ret
            exact ⟨rfl, B9.out⟩
theorem walk (old new : ByteArray) (y : Int) (keep : List Nat) (p3 : Option Addr) (cap3 : Nat) {Q0 Q1 : Prop} (n0 : Q0) (n1 : Q1) (h0 : (Lit.int .u8 y).wf = true) (h3 : ∀ q ∈ keep, q < 256) (w : World) (hS3 : Sl w 1 (.slice p3 keep.length cap3) (rowsU .u8 keep)) :
    Calls Try.prog 4 #[.string old, .string new, .int .u8 y, .slice p3 keep.length cap3] w fun e w' => e = .returned (.bool true) ∧ Below w.heap.size w w' := walkK theSlots old new y keep p3 cap3 h0 (Bys.of h3) w hS3
set_option maxRecDepth 100000 in
theorem lifted (os : Os) (started : os.Started) (H : Type) (enc : TypeId × Value → H) :
    ReturnsInHanded {} Try.checked os 4 .any (Rows.slotsFirstSpec.pre6 enc Try.prog Try.f4 Rows.slotsFirstRow.domain false) (Rows.slotsFirstSpec.post enc Try.prog Try.f4 false true false false) := by
  refine returnsInHanded_of_change (C := Try.checked) own started (by kernel_rfl) Try.func4
    (ChangeSpec.witness6 (enc := enc) (C := Try.checked) false ⟨#[], #[.string ByteArray.empty, .string ByteArray.empty, .int .u8 0, .slice none 0 0], []⟩ 8 (by kernel_rfl) (by kernel_rfl) (by kernel_rfl) (by kernel_rfl)) ?_
  intro W base args ds gs before hval0 hW hcnd _
  have hval : ∀ (j : Nat) t v, Try.f4.params[j]? = some t → args[j]? = some v → Value.okWide Try.prog W .any base t v := hval0
  have hW' := hW
  obtain ⟨p, q, hA0, hV, rfl, hfz, hnd⟩ := hW
  have hA : DataW.TrodAll enc Try.prog W 0 (fun _ => true) true Try.f4.params.toList args.toList ds p := hA0
  rw [Try.params4] at hA hval
  obtain ⟨v0, vs0, d0, ds0, p0, q0, hargs, rfl, rfl, h0, r0⟩ := trodAll_cons hA
  obtain ⟨v1, vs1, d1, ds1, p1, q1, rfl, rfl, rfl, h1, r1⟩ := trodAll_cons r0
  obtain ⟨v2, vs2, d2, ds2, p2, q2, rfl, rfl, rfl, h2, r2⟩ := trodAll_cons r1
  obtain ⟨v3, vs3, d3, ds3, p3, q3, rfl, rfl, rfl, h3, r3⟩ := trodAll_cons r2
  obtain ⟨rfl, rfl, rfl⟩ := trodAll_nil r3
  obtain rfl : args = #[v0, v1, v2, v3] := by cases args; simp_all
  obtain ⟨rfl, rfl⟩ := trodVars_none hV
  obtain ⟨l0, rfl, rfl, rfl, n0⟩ := open_string Try.underlying9 (hval 0 9 v0 rfl rfl) h0
  obtain ⟨l1, rfl, rfl, rfl, n1⟩ := open_string Try.underlying9 (hval 1 9 v1 rfl rfl) h1
  obtain ⟨l2, rfl, rfl, rfl, n2⟩ := open_int Try.underlying5 (hval 2 5 v2 rfl rfl) h2
  have k3 := h3
  have lt3 : ∀ x ∈ p3, x.block < W.heap.size := by obtain ⟨m, hm⟩ := k3; exact DataW.trod_lt m _ _ _ hm
  obtain ⟨a3, m3, c3, rfl⟩ := Go.WideShapes.okWide_slice Try.underlying24 (hval 3 24 v3 rfl rfl)
  obtain ⟨l3, rfl, S3, n3⟩ := open_u8s h3
  clear hA0 hval0
  simp only [List.append_nil] at hW'
  refine (walk l0 l1 l2 l3 a3 c3 n0 n1 n2 n3 W S3).mono fun e W' ⟨he, bel⟩ => ?_
  subst he
  exact ⟨_, rfl, _, _, _, [], _, [], hW', trodAll_mk1 (shut_bool Try.underlying4 _), (trodAll_cons_mk (shut_string Try.underlying9 n0) (trodAll_cons_mk (shut_string Try.underlying9 n1) (trodAll_cons_mk (shut_int Try.underlying5 n2) (trodAll_cons_mk (Below.trod laidOut (by kernel_rfl) (of_decide_eq_true (by kernel_rfl)) k3 bel lt3) trodAll_mk0)))), rfl, bel.frame _, fun h => by cases h⟩

theorem over : Rows.slotsFirstRow.holds Try.pinned (OpenSpec.ofChange Rows.slotsFirstSpec) :=
  OpenClaim.holds_of_wide 4 Try.f4 rfl rfl rfl rfl rfl rfl rfl ⟨rfl, rfl, rfl, rfl, rfl⟩ rfl rfl rfl rfl rfl (by kernel_rfl) Try.func4 (by kernel_rfl)
    (of_decide_eq_true (by kernel_rfl)) (by unfold Func.isWrapper; first | (rw [if_pos (by decide +kernel)]; kernel_rfl) | (rw [if_neg (by decide +kernel)]; exact ⟨rfl, rfl⟩))
    (fun os started H enc _ => lifted os started H enc)

theorem proved : Rows.SlotsFirstSaid :=
  over
#print axioms proved
end Go.Proofs.Ytccplgicfbfjiaa.slotsFirst
