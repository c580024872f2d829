/-
  For every text, every sector, and all acts: what was synced outlives all crashes, whatever is written to other sectors. Acts beyond the bound are answered by the case shown alone. No condition.
-/
import Derived.Test.YtdpdgmfmjgjmiaaRows
import Derived.Test.YtdpdgmfmjgjmiaaZAct
import Derived.Test.YtdpdgmfmjgjmiaaZThe
import Derived.Test.YtdpdgmfmjgjmiaaJ1
import Derived.ShutString
import Derived.ChangeOld
namespace Go.Proofs.Ytdpdgmfmjgjmiaa.diskSafe
open Go.ChangeShapes Go.WideShapes Go.ChangeAt Go.RowKit
open Go.ChangeMaps (open_string shut_string)
set_option linter.unusedVariables false

set_option maxHeartbeats 4000000 in
set_option maxRecDepth 100000 in
theorem walkK (K : DiskKit) (s : ByteArray) (b : Nat) (l : List ActV) (p : Option Addr) (cap : Nat) (hb : b < 256) (hok : ∀ a ∈ l, ActOk a) (w : World) (hS : Sl w 4 (.slice p l.length cap) (rowsA l)) (hKI : KeepIn w l) :
    Calls Try.prog 3 #[.string s, .int .u8 (b : Int), .slice p l.length cap] w fun e w' => e = .returned (.bool true) ∧ Below w.heap.size w w' := by
  have HSh := Lib.hid (fun w => l13_shown K w)
  have HS := Lib.hid hS
  have HKI := Lib.hid hKI
  have HOK := Lib.hid hok
  clear hKI hok
  by_cases h1 : 100 < s.size
  · have g1 : (100 : Int) < (s.size : Int) := by omega
    have g1' : decide ((100 : Int) < (s.size : Int)) = true := decide_eq_true g1
    clear h1 hS
    go_enter Try.func3, Try.ntmps3
    go_wp2_with (go_at_call 8; (with_reducible refine (HSh.out _).mono ?_); rintro e w1 ⟨rfl, hb1⟩)
    go_ret
    exact ⟨rfl, hb1⟩
  have g1 : ¬ (100 : Int) < (s.size : Int) := by omega
  have g1' : decide ((100 : Int) < (s.size : Int)) = false := decide_eq_false g1
  obtain ⟨hv, hhv⟩ : ∃ hv, heavyA l = hv := ⟨_, rfl⟩
  have HHV := Lib.hid (l13_heavy l p cap hv w hhv hS)
  clear hS
  cases hv with
  | true =>
    clear h1 hhv
    go_enter Try.func3, Try.ntmps3
    go_wp2_with fail
    refine HHV.out.mono ?_
    rintro e w1 ⟨rfl, hb1⟩
    have B1 := Lib.hid hb1
    clear hb1
    go_wp2_with fail
    (with_reducible refine (HSh.out _).mono ?_)
    rintro e w2 ⟨rfl, hb2⟩
    have B2 := Lib.hid (B1.out.trans (hb2.mono B1.out.size))
    clear hb2
    go_wp2
    go_ret
    exact ⟨rfl, B2.out⟩
  | false =>
    obtain ⟨l100, hlight⟩ := heavyA_no.1 hhv
    have HLI := Lib.hid hlight
    have L100 := Lib.hid l100
    have HF := Lib.hid (fun wx => l13_full s wx (by omega))
    have hFl := full_len s
    have hFs := full_size s
    obtain ⟨F, hF⟩ : ∃ F, fullT s = F := ⟨_, rfl⟩
    rw [hF] at HF hFl hFs
    obtain ⟨k, hk⟩ : ∃ k, b % 6 = k := ⟨_, rfl⟩
    have hk6 : k < 6 := by omega
    have hkI : (b : Int) % 6 = (k : Int) := by omega
    have n0 := dkn_new (n := 6) (by decide)
    obtain ⟨e1, w1⟩ := wr_on (d := newD 6) (i := k) (s := sl F) (by simp [newD]; omega) hFl rfl
    have n1 := dkn_write n0 (k : Int) (sl_bys F)
    rw [w1] at n1
    have o1 := off_write (d := newD 6) rfl k (sl F)
    have len1 : (writeD (newD 6) k (sl F)).sec.length = 6 := by simp [writeD, newD]
    have sec1 : readD (writeD (newD 6) k (sl F)) k = sl F := read_same _ _ _
    obtain ⟨d1, hd1⟩ : ∃ d1, writeD (newD 6) k (sl F) = d1 := ⟨_, rfl⟩
    rw [hd1] at n1 w1 o1 len1 sec1
    obtain ⟨e2, w2⟩ := sy_on o1
    have n2 := dkn_sync n1
    rw [w2] at n2
    have I0 : InvD (sl F) k 0 (syncD d1) := ⟨n2, by rw [sync_len, len1], by rw [sync_safe (by rw [len1]; exact hk6), sec1], rfl⟩
    obtain ⟨d2, hd2⟩ : ∃ d2, syncD d1 = d2 := ⟨_, rfl⟩
    rw [hd2] at I0 w2
    have HI0 := Lib.hid I0
    have HNEW := Lib.hid (fun (wx : World) (h : w.heap.size ≤ wx.heap.size) => K.new_yes 6 wx w.heap.size (by decide) (by decide) h)
    have HW1 := Lib.hid (fun (wx : World) (D : Nat) (h : K.Rep w.heap.size wx D (newD 6)) (hw : w.heap.size ≤ wx.heap.size) => K.write h (n0.b (by decide)) hw (k : Int) (wf_small k (by omega)) F (by omega) 0 d1 (by rw [hFs, ← hFl]; exact e1) w1)
    have HSY := Lib.hid (fun (wx : World) (D : Nat) (h : K.Rep w.heap.size wx D d1) (hw : w.heap.size ≤ wx.heap.size) => K.sync h (n1.b (by decide)) hw 0 d2 e2 w2)
    have HWF := Lib.hid (wf_small k (by omega))
    have HK6 := Lib.hid hk6
    have HKI2 := Lib.hid hkI
    have b8 : (b : Int) < 256 := by omega
    have ub : IntKind.i64.wrap (b : Int) = (b : Int) := by rw [IntKind.wrap_i64]; omega
    have t1 := txt_same F
    obtain ⟨n, hn⟩ : ∃ n, l.length = n := ⟨_, rfl⟩
    have HN := Lib.hid hn
    rw [hn] at HS HHV L100 l100 ⊢
    clear n0 n1 n2 e1 w1 e2 w2 o1 len1 sec1 hd1 hd2 I0 hFl hFs hF hhv hlight h1 hk hn
    go_enter Try.func3, Try.ntmps3
    go_wp2_with fail
    refine HHV.out.mono ?_
    rintro e v0 ⟨rfl, c0⟩
    have B0 := Lib.hid c0
    clear c0 HHV
    go_wp2_with fail
    (with_reducible refine (HSh.out _).mono ?_)
    rintro e v1 ⟨rfl, c1⟩
    have B1 := Lib.hid (B0.out.trans (c1.mono B0.out.size))
    clear c1
    go_wp2_with fail
    refine (HNEW.out v1 B1.out.size).mono ?_
    rintro e v2 ⟨D, rfl, r2, c2⟩
    have R2 := Lib.hid r2
    have B2 := Lib.hid (B1.out.trans (c2.mono B1.out.size))
    clear r2 c2 HNEW
    unfold ptD
    go_wp2_with fail
    rw [HKI2.out]
    refine (HF.out _).mono ?_
    rintro e v3 ⟨rfl, c3⟩
    have R3 := Lib.hid (K.keep R2.out c3)
    have B3 := Lib.hid (B2.out.trans (c3.mono B2.out.size))
    clear c3 R2 hkI
    go_wp2_with fail
    refine (HW1.out v3 D R3.out B3.out.size).mono ?_
    rintro e v4 ⟨rfl, r4, c4⟩
    have R4 := Lib.hid r4
    have B4 := Lib.hid (B3.out.trans c4)
    clear r4 c4 HW1
    go_wp2_with fail
    refine (HSY.out v4 D R4.out B4.out.size).mono ?_
    rintro e v5 ⟨rfl, r5, c5⟩
    have R5 := Lib.hid r5
    have B5 := Lib.hid (B4.out.trans c5)
    clear r5 c5 HSY
    go_wp2
    go_loopw [9] (fun i wr => ∃ (j : Nat) (d : DiskM), j ≤ n ∧ i = .int .i64 (j : Int) ∧ InvD (sl F) k j d ∧ K.Rep w.heap.size wr D d ∧ Below w.heap.size w wr) (fun i _ => n - (intOf i).toNat)
    case atStart => exact ⟨0, d2, by omega, rfl, HI0.out, R5.out, B5.out⟩
    case round =>
      obtain ⟨j, d, hj, rfl, hi, hr, gb⟩ := hrel
      have HI := Lib.hid hi
      have RJ := Lib.hid hr
      have GB := Lib.hid gb
      clear hi hr gb HI0 R5 B5
      by_cases hlt : j < n
      · obtain ⟨ad, rfl, c0, c1, c2, c3⟩ := SlA.fields (l := l) (j := j) (HS.out.below GB.out) (by rw [HN.out]; exact hlt)
        have hmem : l.getD j noA ∈ l := getA_mem (by rw [HN.out]; exact hlt)
        obtain ⟨wk, wi, hby, hkb⟩ := HOK.out _ hmem
        obtain ⟨hs100, hk50⟩ := HLI.out _ hmem
        have hKS := (HKI.out.below GB.out) _ hmem
        have hKL := fun hn a e => (HKI.out _ hmem).lt a e hn
        have CELL : Hid (∀ wx, Below w.heap.size w wx → wx.cell? ⟨(ad.add (j * 4)).block, (ad.add (j * 4)).off + 1, none⟩ = some (.int .i64 (l.getD j noA).i) ∧ wx.cell? ⟨(ad.add (j * 4)).block, (ad.add (j * 4)).off + 2, none⟩ = some (.string (tx (l.getD j noA).s))) := Lib.hid fun wx h => by
          obtain ⟨a', e, q0, q1, q2, q3⟩ := SlA.fields (l := l) (j := j) (HS.out.below h) (by rw [HN.out]; exact hlt)
          cases e
          exact ⟨q1, q2⟩
        have hsz := tx_size (l.getD j noA).s
        obtain ⟨ac, hac⟩ : ∃ ac, l.getD j noA = ac := ⟨_, rfl⟩
        rw [hac] at c0 c1 c2 c3 wk wi hby hkb hs100 hk50 hKS hKL CELL hsz
        obtain ⟨kind, ai, asx, akeep, akp, akc⟩ := ac
        dsimp only at c0 c1 c2 c3 wk wi hby hkb hs100 hk50 hKS hKL CELL hsz
        have d1 : (j : Int) < (n : Int) := by omega
        have HFA := Lib.hid (fun wx => l13_full (tx asx) wx (by omega))
        have HBA : Bys (sl (fullT (tx asx))) := sl_bys _
        obtain ⟨FA, hFA⟩ : ∃ FA, fullT (tx asx) = FA := ⟨_, rfl⟩
        have hFAs : FA.size = 32 := by rw [← hFA]; exact full_size _
        rw [hFA] at HFA HBA
        have DB := Lib.hid (HI.out.n.b (by omega))
        have WI := Lib.hid wi
        have KS := Lib.hid hKS
        have KL := Lib.hid hKL
        have KB := Lib.hid hkb
        have K50 := Lib.hid hk50
        have HFAs := Lib.hid hFAs
        obtain ⟨TS, hTS⟩ : ∃ TS, tx asx = TS := ⟨_, rfl⟩
        rw [hTS] at c2 HFA CELL
        have j100 : (j : Int) ≤ 100 := by have := L100.out; omega
        clear hmem hac hsz hs100 hk50 hKS hKL hFA hFAs hTS wk wi hby hkb
        by_cases q0 : ai = (k : Int)
        · subst q0
          have e0 : ((k : Int) == (k : Int)) = true := by simp
          go_wp2
          go_roundw
          case rel => exact ⟨j + 1, d, by omega, by go_num, inv_more HI.out, RJ.out, GB.out⟩
          case measure => simp [intOf]; omega
        · have e0 : (ai == (k : Int)) = false := by rw [beq_eq_false_iff_ne]; exact q0
          have Q0 := Lib.hid q0
          by_cases k0 : kind = 0
          · subst k0
            have f0 : ((0 : Int) == 0) = true := rfl
            clear q0
            go_wp2_with fail
            have QF := Lib.hid (fun wx (h : NewBut wr wx) => (HFA.out wx).mono fun _ _ ⟨x1, x2⟩ => (⟨x1, h.trans (x2.mono h.size)⟩ : _ ∧ NewBut wr _))
            have C1 : Hid (∀ wx, NewBut wr wx → wx.cell? ⟨(ad.add (j * 4)).block, (ad.add (j * 4)).off + 1, none⟩ = some (.int .i64 ai)) := Lib.hid fun wx h => (CELL.out wx (GB.out.trans (Below.mono h GB.out.size))).1
            have C2 : Hid (∀ wx, NewBut wr wx → wx.cell? ⟨(ad.add (j * 4)).block, (ad.add (j * 4)).off + 2, none⟩ = some (.string TS)) := Lib.hid fun wx h => (CELL.out wx (GB.out.trans (Below.mono h GB.out.size))).2
            refine region_quiet_tail (C := NewBut wr) 12 mixed (by kernel_rfl) (show Below _ _ _ from (Below.refl _ _).drew) ?_
            simp only [List.take_succ_cons, List.take_zero, List.drop_succ_cons, List.drop_zero]
            repeat (first | go_big_quiet_step (fail) | (refine wpQuiet_load_one rfl 3 _ rfl ⟨(ad.add (j * 4)).block, (ad.add (j * 4)).off + 1, none⟩ rfl _ C1.out Try.underlying3 rfl ?_) | (refine wpQuiet_load_one rfl 9 _ rfl ⟨(ad.add (j * 4)).block, (ad.add (j * 4)).off + 2, none⟩ rfl _ C2.out Try.underlying9 rfl ?_) | (refine wpQuiet_step (fun K' hK' => ?_); go_simp; first | (refine hK' _ ?_; clear hK' K') | ((with_reducible refine ⟨_, fun wx hx => QF.out wx hx, hK' _ ?_⟩); clear hK' K') | (refine ⟨_, fun _ _ => rfl, hK' _ ?_⟩; clear hK' K')))
            refine wpQuiet_nil ?_
            intro v6 hb6
            have R6 := Lib.hid (K.keep RJ.out (hb6 : Below wr.heap.size wr v6))
            have B6 := Lib.hid (GB.out.trans (Below.mono hb6 GB.out.size))
            have HWW := Lib.hid (K.write R6.out DB.out B6.out.size ai WI.out FA (by rw [HFAs.out]; decide) _ _ rfl rfl)
            have HIN := Lib.hid (inv_write HI.out Q0.out HBA)
            generalize wrD d ai (sl FA) = d' at *
            generalize wrE d ai FA.size = we at *
            clear hb6
            go_wp2_with fail
            refine HWW.out.mono ?_
            rintro e v7 ⟨rfl, r7, c7⟩
            have R7 := Lib.hid r7
            have B7 := Lib.hid (B6.out.trans c7)
            clear r7 c7
            have HSF := Lib.hid (K.safe R7.out (HIN.out.n.b (by have := L100.out; omega)) B7.out.size (k : Int) HWF.out F (inv_safe HIN.out HK6.out))
            go_wp2_with fail
            refine HSF.out.mono ?_
            rintro e v8 ⟨rfl, r8, c8⟩
            have R8 := Lib.hid r8
            have B8 := Lib.hid (B7.out.trans c8)
            clear r8 c8
            go_wp2_with fail
            refine (HF.out _).mono ?_
            rintro e v9 ⟨rfl, c9⟩
            have R9 := Lib.hid (K.keep R8.out c9)
            have B9 := Lib.hid (B8.out.trans (c9.mono B8.out.size))
            clear c9
            go_wp2
            go_roundw
            case rel => exact ⟨j + 1, d', by omega, by go_num, HIN.out, R9.out, B9.out⟩
            case measure => simp [intOf]; omega
          · have f0 : (kind == 0) = false := by rw [beq_eq_false_iff_ne]; exact k0
            by_cases k2 : kind = 2
            · subst k2
              have f2 : ((2 : Int) == 2) = true := rfl
              have HWW := Lib.hid (K.sync RJ.out DB.out GB.out.size _ _ rfl rfl)
              have HIN := Lib.hid (inv_sync HI.out HK6.out)
              generalize syD d = d' at *
              generalize syE d = we at *
              clear q0 k0
              go_wp2_with fail
              refine HWW.out.mono ?_
              rintro e v7 ⟨rfl, r7, c7⟩
              have R7 := Lib.hid r7
              have B7 := Lib.hid (GB.out.trans c7)
              clear r7 c7
              have HSF := Lib.hid (K.safe R7.out (HIN.out.n.b (by have := L100.out; omega)) B7.out.size (k : Int) HWF.out F (inv_safe HIN.out HK6.out))
              go_wp2_with fail
              refine HSF.out.mono ?_
              rintro e v8 ⟨rfl, r8, c8⟩
              have R8 := Lib.hid r8
              have B8 := Lib.hid (B7.out.trans c8)
              clear r8 c8
              go_wp2_with fail
              refine (HF.out _).mono ?_
              rintro e v9 ⟨rfl, c9⟩
              have R9 := Lib.hid (K.keep R8.out c9)
              have B9 := Lib.hid (B8.out.trans (c9.mono B8.out.size))
              clear c9
              go_wp2
              go_roundw
              case rel => exact ⟨j + 1, d', by omega, by go_num, HIN.out, R9.out, B9.out⟩
              case measure => simp [intOf]; omega
            · have f2 : (kind == 2) = false := by rw [beq_eq_false_iff_ne]; exact k2
              by_cases k3 : kind = 3
              · subst k3
                have f3 : ((3 : Int) == 3) = true := rfl
                have HWW := Lib.hid (K.crash RJ.out DB.out GB.out.size akeep akp akc (by have := K50.out; omega) KB.out KS.out (fun hn a e => .inl (KL.out hn a e)) _ rfl)
                have HIN := Lib.hid (inv_crash HI.out HK6.out akeep)
                generalize crashD d akeep = d' at *
                clear q0 k0 k2
                go_wp2_with fail
                refine HWW.out.mono ?_
                rintro e v7 ⟨rfl, r7, c7⟩
                have R7 := Lib.hid r7
                have B7 := Lib.hid (GB.out.trans c7)
                clear r7 c7
                have HSF := Lib.hid (K.safe R7.out (HIN.out.n.b (by have := L100.out; omega)) B7.out.size (k : Int) HWF.out F (inv_safe HIN.out HK6.out))
                go_wp2_with fail
                refine HSF.out.mono ?_
                rintro e v8 ⟨rfl, r8, c8⟩
                have R8 := Lib.hid r8
                have B8 := Lib.hid (B7.out.trans c8)
                clear r8 c8
                go_wp2_with fail
                refine (HF.out _).mono ?_
                rintro e v9 ⟨rfl, c9⟩
                have R9 := Lib.hid (K.keep R8.out c9)
                have B9 := Lib.hid (B8.out.trans (c9.mono B8.out.size))
                clear c9
                go_wp2
                go_roundw
                case rel => exact ⟨j + 1, d', by omega, by go_num, HIN.out, R9.out, B9.out⟩
                case measure => simp [intOf]; omega
              · have f3 : (kind == 3) = false := by rw [beq_eq_false_iff_ne]; exact k3
                by_cases k4 : kind = 4
                · subst k4
                  have f4 : ((4 : Int) == 4) = true := rfl
                  have HWW := Lib.hid (K.off RJ.out DB.out GB.out.size ai WI.out)
                  have HIN := Lib.hid (inv_cut HI.out ai)
                  generalize cutD d ai = d' at *
                  clear q0 k0 k2 k3
                  go_wp2_with fail
                  refine HWW.out.mono ?_
                  rintro e v7 ⟨rfl, r7, c7⟩
                  have R7 := Lib.hid r7
                  have B7 := Lib.hid (GB.out.trans c7)
                  clear r7 c7
                  have HSF := Lib.hid (K.safe R7.out (HIN.out.n.b (by have := L100.out; omega)) B7.out.size (k : Int) HWF.out F (inv_safe HIN.out HK6.out))
                  go_wp2_with fail
                  refine HSF.out.mono ?_
                  rintro e v8 ⟨rfl, r8, c8⟩
                  have R8 := Lib.hid r8
                  have B8 := Lib.hid (B7.out.trans c8)
                  clear r8 c8
                  go_wp2_with fail
                  refine (HF.out _).mono ?_
                  rintro e v9 ⟨rfl, c9⟩
                  have R9 := Lib.hid (K.keep R8.out c9)
                  have B9 := Lib.hid (B8.out.trans (c9.mono B8.out.size))
                  clear c9
                  go_wp2
                  go_roundw
                  case rel => exact ⟨j + 1, d', by omega, by go_num, HIN.out, R9.out, B9.out⟩
                  case measure => simp [intOf]; omega
                · have f4 : (kind == 4) = false := by rw [beq_eq_false_iff_ne]; exact k4
                  have HIN := Lib.hid (inv_more HI.out)
                  clear q0 k0 k2 k3 k4
                  have HSF := Lib.hid (K.safe RJ.out (HIN.out.n.b (by have := L100.out; omega)) GB.out.size (k : Int) HWF.out F (inv_safe HIN.out HK6.out))
                  go_wp2_with fail
                  refine HSF.out.mono ?_
                  rintro e v8 ⟨rfl, r8, c8⟩
                  have R8 := Lib.hid r8
                  have B8 := Lib.hid (GB.out.trans c8)
                  clear r8 c8
                  go_wp2_with fail
                  refine (HF.out _).mono ?_
                  rintro e v9 ⟨rfl, c9⟩
                  have R9 := Lib.hid (K.keep R8.out c9)
                  have B9 := Lib.hid (B8.out.trans (c9.mono B8.out.size))
                  clear c9
                  go_wp2
                  go_roundw
                  case rel => exact ⟨j + 1, d, by omega, by go_num, HIN.out, R9.out, B9.out⟩
                  case measure => simp [intOf]; omega
      · obtain rfl : j = n := by omega
        have HC := Lib.hid (K.crash RJ.out (HI.out.n.b (by have := L100.out; omega)) GB.out.size [] none 0 (by decide) (Bys.of fun x hx => by cases hx) (Sl.none 1) (fun h => absurd h (Nat.lt_irrefl _)) _ rfl)
        have hn9 := dkn_crash HI.out.n []
        have hr9 := inv_read HI.out HK6.out []
        generalize crashD d [] = d' at *
        have HR9 := Lib.hid (fun (wx : World) (h : K.Rep w.heap.size wx D d') (hw : w.heap.size ≤ wx.heap.size) => K.read_ h (hn9.b (by have := L100.out; omega)) hw (k : Int) HWF.out F 0 hr9)
        clear hn9 hr9 hlt
        go_wp2_with fail
        refine HC.out.mono ?_
        rintro e v6 ⟨rfl, r6, c6⟩
        have R6 := Lib.hid r6
        have B6 := Lib.hid (GB.out.trans c6)
        clear r6 c6
        go_wp2_with fail
        refine (HR9.out v6 R6.out B6.out.size).mono ?_
        rintro e v7 ⟨rfl, r7, c7⟩
        have B7 := Lib.hid (B6.out.trans c7)
        clear r7 c7
        go_wp2_with fail
        refine (HF.out _).mono ?_
        rintro e v8 ⟨rfl, c8⟩
        have B8 := Lib.hid (B7.out.trans (c8.mono B7.out.size))
        clear c8
        go_wp2
        go_ret
        exact ⟨rfl, B8.out⟩
theorem walk (s : ByteArray) (b : Int) (l : List ActV) (p : Option Addr) (cap : Nat) {Q : Prop} (_ : Q) (hb : (Lit.int .u8 b).wf = true) (w : World) (hk : KeepIn w l ∧ ∀ a ∈ l, ActOk a) (w' : World) (e : w' = w) (hS : Sl w 4 (.slice p l.length cap) (rowsA l)) :
    Calls Try.prog 3 #[.string s, .int .u8 b, .slice p l.length cap] w fun e w' => e = .returned (.bool true) ∧ Below w.heap.size w w' := by
  obtain ⟨h0, h1⟩ := wf_u8 b hb
  obtain ⟨m, rfl⟩ : ∃ m : Nat, b = (m : Int) := ⟨b.toNat, by omega⟩
  exact walkK theKit s m l p cap (by omega) hk.2 w hS hk.1
set_option maxRecDepth 100000 in
theorem lifted (os : Os) (started : os.Started) (H : Type) (enc : TypeId × Value → H) :
    ReturnsInHanded {} Try.checked os 3 .any (Rows.diskSafeSpec.pre6 enc Try.prog Try.f3 Rows.diskSafeRow.domain false) (Rows.diskSafeSpec.post enc Try.prog Try.f3 false true false false) := by
  refine returnsInHanded_of_change (C := Try.checked) own started (by kernel_rfl) Try.func3
    (ChangeSpec.witness6 (enc := enc) (C := Try.checked) false ⟨#[], #[.string ByteArray.empty, .int .u8 0, .slice none 0 0], []⟩ 8 (by kernel_rfl) (by kernel_rfl) (by kernel_rfl) (by kernel_rfl)) ?_
  intro W base args ds gs before hval0 hW hcnd _
  have hval : ∀ (j : Nat) t v, Try.f3.params[j]? = some t → args[j]? = some v → Value.okWide Try.prog W .any base t v := hval0
  have hW' := hW
  obtain ⟨p, q, hA0, hV, rfl, hfz, hnd⟩ := hW
  have hA : DataW.TrodAll enc Try.prog W 0 (fun _ => true) true Try.f3.params.toList args.toList ds p := hA0
  rw [Try.params3] at hA hval
  obtain ⟨v0, vs0, d0, ds0, p0, q0, hargs, rfl, rfl, h0, r0⟩ := trodAll_cons hA
  obtain ⟨v1, vs1, d1, ds1, p1, q1, rfl, rfl, rfl, h1, r1⟩ := trodAll_cons r0
  obtain ⟨v2, vs2, d2, ds2, p2, q2, rfl, rfl, rfl, h2, r2⟩ := trodAll_cons r1
  obtain ⟨rfl, rfl, rfl⟩ := trodAll_nil r2
  obtain rfl : args = #[v0, v1, v2] := by cases args; simp_all
  obtain ⟨rfl, rfl⟩ := trodVars_none hV
  obtain ⟨l0, rfl, rfl, rfl, n0⟩ := open_string Try.underlying9 (hval 0 9 v0 rfl rfl) h0
  obtain ⟨l1, rfl, rfl, rfl, n1⟩ := open_int Try.underlying5 (hval 1 5 v1 rfl rfl) h1
  have k2 := h2
  have lt2 : ∀ x ∈ p2, x.block < W.heap.size := by obtain ⟨m, hm⟩ := k2; exact DataW.trod_lt m _ _ _ hm
  obtain ⟨a2, m2, c2, rfl⟩ := Go.WideShapes.okWide_slice Try.underlying22 (hval 2 22 v2 rfl rfl)
  obtain ⟨l2, rfl, S2, n2⟩ := open_acts h2
  clear hA0 hval0
  simp only [List.append_nil] at hW'
  refine (walk l0 l1 l2 a2 c2 n0 n1 W n2 W rfl S2).mono fun e W' ⟨he, bel⟩ => ?_
  subst he
  exact ⟨_, rfl, _, _, _, [], _, [], hW', trodAll_mk1 (shut_bool Try.underlying4 _), (trodAll_cons_mk (shut_string Try.underlying9 n0) (trodAll_cons_mk (shut_int Try.underlying5 n1) (trodAll_cons_mk (Below.trod laidOut (by kernel_rfl) (of_decide_eq_true (by kernel_rfl)) k2 bel lt2) trodAll_mk0))), rfl, bel.frame _, fun h => by cases h⟩

theorem over : Rows.diskSafeRow.holds Try.pinned (OpenSpec.ofChange Rows.diskSafeSpec) :=
  OpenClaim.holds_of_wide 3 Try.f3 rfl rfl rfl rfl rfl rfl rfl ⟨rfl, rfl, rfl, rfl, rfl⟩ rfl rfl rfl rfl rfl (by kernel_rfl) Try.func3 (by kernel_rfl)
    (of_decide_eq_true (by kernel_rfl)) (by unfold Func.isWrapper; first | (rw [if_pos (by decide +kernel)]; kernel_rfl) | (rw [if_neg (by decide +kernel)]; exact ⟨rfl, rfl⟩))
    (fun os started H enc _ => lifted os started H enc)

theorem proved : Rows.DiskSafeSaid :=
  over
#print axioms proved
end Go.Proofs.Ytdpdgmfmjgjmiaa.diskSafe
