/-
  For every list of texts, every list of truths, and every list of bytes: what was appended with OK is found, in order, wherever crashes come between; an opened journal goes on. No condition.
-/
import Derived.Test.YtmonenbnjnjahaaRows
import Derived.Test.YtmonenbnjnjahaaYShw
import Derived.Test.YtmonenbnjnjahaaYThe
import Derived.Test.YtmonenbnjnjahaaYBoo
import Derived.ShutString
import Derived.ChangeOld
namespace Go.Proofs.Ytmonenbnjnjahaa.journalFinds
open Go.ChangeShapes Go.WideShapes Go.ChangeAt Go.RowKit
open Go.ChangeMaps (open_string shut_string)
set_option linter.unusedVariables false

structure InvF (j : Nat) (d : DiskM) (m : JurM) (fs : List (List Nat)) : Prop where
  dk : DkJ d (36 * j)
  ok : JurOk d m fs
  fr : m.fr = 2
  tq : m.to = 38
  len : d.sec.length = 40
  cj : fs.length ≤ j
theorem inv_new : InvF 0 (newD 40) ⟨2, 38, 2⟩ [] := ⟨dkj_new (by decide), jur_new (by decide) (by decide), rfl, rfl, by simp [newD], Nat.le_refl _⟩
theorem InvF.more {j : Nat} {d : DiskM} {m : JurM} {fs : List (List Nat)} (h : InvF j d m fs) : InvF (j + 1) d m fs := ⟨h.dk.more (by omega), h.ok, h.fr, h.tq, h.len, (by have := h.cj; omega)⟩
theorem inv_yes {j : Nat} {d : DiskM} {m : JurM} {fs : List (List Nat)} (h : InvF j d m fs) {s : List Nat} (he : apE m s.length = 0) (hs : Bys s) (hl : s.length ≤ 200) : InvF (j + 1) (apD d m s) (apM m s.length) (fs ++ [s]) := by
  have hM : apM m s.length = ⟨m.fr, m.to, m.nx + secK s.length⟩ := by unfold apM; rw [if_pos he]
  exact ⟨(dkj_append h.dk h.ok hs (by omega)).more (by omega), jur_append h.ok he hs (by omega), by rw [hM]; exact h.fr, by rw [hM]; exact h.tq, by rw [ap_len]; exact h.len, by rw [List.length_append]; have := h.cj; simp; omega⟩
theorem InvF.crash {j : Nat} {d : DiskM} {m : JurM} {fs : List (List Nat)} (h : InvF j d m fs) (keep : List Nat) : InvF j (crashD d keep) m fs := ⟨dkj_crash h.dk keep, jur_crash h.ok h.dk.pen keep, h.fr, h.tq, by rw [crash_len]; exact h.len, h.cj⟩
/-- an opened journal goes on -/
theorem InvF.open_ {j : Nat} {d : DiskM} {m : JurM} {fs : List (List Nat)} (h : InvF j d m fs) : scanK (areaD d 2 (38 - 2)) = (fs, usedK fs) ∧ (⟨2, 38, 2 + usedK fs⟩ : JurM) = m := by
  have o := jur_open h.ok
  have hx := h.ok.nx
  have h1 := h.fr
  have h2 := h.tq
  rw [h1, h2] at o
  refine ⟨o, ?_⟩
  rw [h1] at hx
  obtain ⟨a, b, c⟩ := m
  dsimp only at hx h1 h2
  rw [h1, h2, hx]
theorem getD_byst {A : List (List Nat)} (h : ∀ x ∈ A, Bys x) {i : Nat} (hi : i < A.length) : Bys (A.getD i []) := by
  rw [List.getD_eq_getElem?_getD, List.getElem?_eq_getElem hi]
  exact h _ (List.getElem_mem _)
theorem apart_grown {F : Nat → Prop} {v v' : Value} {n : Nat} (h : v'.ownBlock = v.ownBlock ∨ v'.ownBlock = some n) (ha : ∀ b, v.ownBlock = some b → ¬ F b) (hF : ∀ b, F b → b < n) : Apart F v' := by
  intro b hb hf
  rcases h with h | h
  · exact ha b (by rw [← h]; exact hb) hf
  · rw [h] at hb
    have e : n = b := Option.some.inj hb
    have := hF b hf
    omega
set_option maxHeartbeats 4000000 in
set_option maxRecDepth 100000 in
theorem walkK (K : JurKit) (S : List (List Nat)) (C : List Bool) (keep : List Nat) (p0 p1 p2 : Option Addr) (cap0 cap1 cap2 : Nat) (hA : ∀ x ∈ S, Bys x) (hK : Bys keep) (w : World) (hS0 : Sl w 1 (.slice p0 S.length cap0) (rowsS S)) (hS1 : Sl w 1 (.slice p1 C.length cap1) (rowsO C)) (hS2 : Sl w 1 (.slice p2 keep.length cap2) (rowsU .u8 keep)) :
    Calls Try.prog 3 #[.slice p0 S.length cap0, .slice p1 C.length cap1, .slice p2 keep.length cap2] w fun e w' => e = .returned (.bool true) ∧ Below w.heap.size w w' := by
  have HSh := Lib.hid (fun w => l14_shown K w)
  have HS0 := Lib.hid hS0
  have HS1 := Lib.hid hS1
  have HBA := Lib.hid hA
  by_cases h0 : 20 < S.length ∨ 50 < keep.length
  · by_cases h8 : 20 < S.length
    · have g0 : (20 : Int) < (S.length : Int) := by omega
      have g0' : decide ((20 : Int) < (S.length : Int)) = true := decide_eq_true g0
      clear h0 h8 hS0 hS1 hS2 hA hK
      go_enter Try.func3, Try.ntmps3
      go_wp2_with (go_at_call 6; (with_reducible refine (HSh.out _).mono ?_); rintro e w1 ⟨rfl, hb1⟩)
      go_ret
      exact ⟨rfl, hb1⟩
    · have g0 : ¬ (20 : Int) < (S.length : Int) := by omega
      have g0' : decide ((20 : Int) < (S.length : Int)) = false := decide_eq_false g0
      have g1 : (50 : Int) < (keep.length : Int) := by omega
      have g1' : decide ((50 : Int) < (keep.length : Int)) = true := decide_eq_true g1
      clear h0 h8 hS0 hS1 hS2 hA hK
      go_enter Try.func3, Try.ntmps3
      go_wp2_with (go_at_call 6; (with_reducible refine (HSh.out _).mono ?_); rintro e w1 ⟨rfl, hb1⟩)
      go_ret
      exact ⟨rfl, hb1⟩
  have HCR := Lib.hid (fun (wx : World) (D : Nat) (d d' : DiskM) (js : List (Nat × JurM)) (F : Nat → Prop) (h : K.St w.heap.size wx D d js F) (hb : DkJ d 50000) (hw : Below w.heap.size w wx) (hd : crashD d keep = d') => K.crash h hb hw.size keep p2 cap2 (by omega) hK (hS2.below hw) (fun hn a e => hS2.lt a e hn) d' hd)
  obtain ⟨na, hna⟩ : ∃ na, S.length = na := ⟨_, rfl⟩
  obtain ⟨nc, hnc⟩ : ∃ nc, C.length = nc := ⟨_, rfl⟩
  obtain ⟨nk, hnk⟩ : ∃ nk, keep.length = nk := ⟨_, rfl⟩
  have HNA := Lib.hid hna
  have HNC := Lib.hid hnc
  rw [hna] at HS0 h0 ⊢
  rw [hnc] at HS1 ⊢
  rw [hnk] at HCR h0 ⊢
  clear hna hnc hnk hS0 hS1 hS2 hA hK
  have g0 : ¬ (20 : Int) < (na : Int) := by omega
  have g0' : decide ((20 : Int) < (na : Int)) = false := decide_eq_false g0
  have g1 : ¬ (50 : Int) < (nk : Int) := by omega
  have g1' : decide ((50 : Int) < (nk : Int)) = false := decide_eq_false g1
  have A20 : na ≤ 20 := by omega
  have HI0 := Lib.hid inv_new
  obtain ⟨i1, hi1, hy0, hy1, hy2⟩ := info_parts2 info_str
  have HN := Lib.hid (fun (wx : World) (h : w.heap.size ≤ wx.heap.size) => K.new_yes 40 wx w.heap.size (by decide) (by decide) h)
  have HO0 := Lib.hid (fun (wx : World) (D : Nat) (F : Nat → Prop) (h : K.St w.heap.size wx D (newD 40) [] F) (hw : w.heap.size ≤ wx.heap.size) => K.open_ h (inv_new.dk.more (by omega)) hw 2 38 (by decide) (by rw [inv_new.len]; decide) (by decide) [] 0 inv_new.open_.1)
  clear h0
  go_enter Try.func3, Try.ntmps3
  go_wp2_with fail
  (with_reducible refine (HSh.out _).mono ?_)
  rintro e v1 ⟨rfl, c1⟩
  have B1 := Lib.hid c1
  clear c1
  go_wp2_with fail
  refine (HN.out v1 B1.out.size).mono ?_
  rintro e v2 ⟨D, F2, rfl, r2, c2, _⟩
  have R2 := Lib.hid r2
  have B2 := Lib.hid (B1.out.trans (c2.mono B1.out.size))
  clear r2 c2 HN
  unfold ptD
  go_wp2_with fail
  refine (HO0.out v2 D F2 R2.out B2.out.size).mono ?_
  rintro e v3 ⟨J0, p3, c3, F3, rfl, r3, _, t3⟩
  have hb4 := (Below.refl v3.heap.size v3).alloc (Nat.le_refl _) (.cells #[] 9)
  have R4 := Lib.hid (K.below r3 hb4)
  have B3 := B2.out.trans t3.b
  have B4 := Lib.hid (B3.trans (hb4.mono B3.size))
  have O4 := Lib.hid (OwnR.empty v3 w.heap.size 9 1 B3.size)
  have P4 : Hid (Apart F3 (.slice (some ⟨v3.heap.size, 0, none⟩) 0 0)) := Lib.hid fun b hb hf => by
    have h1 := (K.lt r3 b hf).2
    have h2 : v3.heap.size = b := Option.some.inj hb
    omega
  clear r3 t3 HO0 hb4 B3
  unfold ptD
  go_wp2_with fail
  go_loopw [8, 11, 12, 13, 14, 15, 16] (fun jp want i _ _ _ _ wr => ∃ (j J : Nat) (d : DiskM) (m : JurM) (fs : List (List Nat)) (js : List (Nat × JurM)) (F : Nat → Prop) (pw : Option Addr) (cw : Nat), jp = .pointer (some ⟨J, 0, none⟩) ∧ want = .slice pw fs.length cw ∧ i = .int .i64 (j : Int) ∧ j ≤ na ∧ InvF j d m fs ∧ OwnR wr w.heap.size 9 1 (.slice pw fs.length cw) (rowsS fs) ∧ Apart F (.slice pw fs.length cw) ∧ K.St w.heap.size wr D d ((J, m) :: js) F ∧ Below w.heap.size w wr) (fun _ _ i _ _ _ _ _ => na - (intOf i).toNat)
  case atStart => exact ⟨0, J0, newD 40, ⟨2, 38, 2⟩, [], [], F3, _, _, rfl, rfl, rfl, by omega, HI0.out, O4.out, P4.out, R4.out, B4.out⟩
  case round =>
    obtain ⟨j, J, d, m, fs, js, F, pw, cw, rfl, rfl, rfl, hj, hi, ho, hp, hr, gb⟩ := hrel
    have HI := Lib.hid hi
    have OJ := Lib.hid ho
    have PJ := Lib.hid hp
    have RJ := Lib.hid hr
    have GB := Lib.hid gb
    clear hi ho hp hr gb HI0 O4 P4 R4 B4
    by_cases hlt : j < na
    · have d1 : (j : Int) < (na : Int) := by omega
      obtain ⟨ad, rfl, c1⟩ := SlS.cell (HS0.out.below GB.out) (by rw [HNA.out]; exact hlt)
      have CELL0 := Lib.hid (fun wx (h : Below w.heap.size w wx) => SlS.cell (HS0.out.below h) (j := j) (by rw [HNA.out]; exact hlt))
      obtain ⟨X0, hX0⟩ : ∃ X0, S.getD j [] = X0 := ⟨_, rfl⟩
      have hb0 : Bys X0 := by rw [← hX0]; exact getD_byst HBA.out (by rw [HNA.out]; exact hlt)
      rw [hX0] at c1 CELL0
      have hz0 := tx_size X0
      have ht0 : sl (tx X0) = X0 := sl_tx hb0
      have hrs : rowsS (fs ++ [X0]) = rowsS fs ++ [[.string (tx X0)]] := by rw [rowsS_app]; rfl
      obtain ⟨X, hX⟩ : ∃ X, tx X0 = X := ⟨_, rfl⟩
      rw [hX] at c1 hz0 ht0 CELL0 hrs
      have CELL : Hid (∀ wx, Below w.heap.size w wx → wx.cell? (ad.add j) = some (.string X)) := Lib.hid fun wx h => by
        obtain ⟨a', e, q0⟩ := CELL0.out wx h
        cases e
        exact q0
      have HT0 := Lib.hid ht0
      have HZ0 := Lib.hid hz0
      have HB0 := Lib.hid hb0
      have HRS := Lib.hid hrs
      clear hX0 hX ht0 hz0 hb0 CELL0 hrs
      by_cases xa : 200 < X.size
      · have d2 : (200 : Int) < (X.size : Int) := by omega
        clear xa
        go_wp2_with fail
        (with_reducible refine (HSh.out _).mono ?_)
        rintro e w1 ⟨rfl, hb1⟩
        have B9 := Lib.hid (GB.out.trans (hb1.mono GB.out.size))
        clear hb1
        go_wp2
        go_ret
        exact ⟨rfl, B9.out⟩
      · have d2 : ¬ (200 : Int) < (X.size : Int) := by omega
        have hxl : X0.length ≤ 200 := by have := HZ0.out; omega
        have hfr := HI.out.fr
        have hto := HI.out.tq
        have hnx := HI.out.ok.nx
        have hle := HI.out.ok.le
        have hlen := HI.out.len
        have hfl := HI.out.cj
        obtain ⟨sz, hsz⟩ : ∃ sz, X.size = sz := ⟨_, rfl⟩
        have hszl : X0.length = sz := by have := HZ0.out; omega
        obtain ⟨nd, hnd⟩ : ∃ nd, secK sz = nd := ⟨_, rfl⟩
        obtain ⟨r, hrr⟩ : ∃ r, m.to - m.nx = r := ⟨_, rfl⟩
        by_cases hrm : nd ≤ r
        · have he : apE m X0.length = 0 := by unfold apE; rw [hszl, hnd, if_pos (by omega)]
          have hi' := inv_yes HI.out he HB0.out hxl
          have HAP := Lib.hid (K.append RJ.out (HI.out.dk.more (by omega)) GB.out.size ⟨by omega, hle, by omega⟩ X (by omega) 0 (apD d m X0) (apM m X0.length) (by rw [hsz, ← hszl]; exact he) (by rw [HT0.out]) (by rw [hsz, hszl]))
          obtain ⟨dk, hdk⟩ : ∃ dk, apD d m X0 = dk := ⟨_, rfl⟩
          obtain ⟨mk, hmk⟩ : ∃ mk, apM m X0.length = mk := ⟨_, rfl⟩
          obtain ⟨fk, hfk⟩ : ∃ fk, fs ++ [X0] = fk := ⟨_, rfl⟩
          rw [hdk, hmk] at HAP
          rw [hdk, hmk, hfk] at hi'
          have IK := Lib.hid hi'
          have hfkl : fk.length = fs.length + 1 := by rw [← hfk, List.length_append]; rfl
          have HRK : Hid (rowsS fk = rowsS fs ++ [[.string X]]) := Lib.hid (by rw [← hfk]; exact HRS.out)
          have HFK := Lib.hid hfkl
          have HLEN := Lib.hid (show (rowsS fs).length + [[Value.string X]].length ≤ maxLen by rw [rowsS_len, List.length_singleton]; unfold maxLen; omega)
          have HBY := Lib.hid (show ((rowsS fs).length + [[Value.string X]].length) * 16 ≤ 140737488355328 by rw [rowsS_len, List.length_singleton]; omega)
          have HONE := Lib.hid (show ∀ r ∈ [[Value.string X]], ∀ u ∈ r, u.oneCell' = true by simp [Value.oneCell'])
          clear he hi' hfr hto hnx hle hlen hfl hszl hnd hrr hrm hdk hmk hfk hfkl xa hxl
          go_wp2_with fail
          refine HAP.out.mono ?_
          rintro e v5 ⟨F5, rfl, r5, t5⟩
          obtain ⟨o5, a5⟩ := t5.own OJ.out PJ.out
          have b5 := GB.out.trans t5.b
          have c5 := CELL.out v5 b5
          have hb6 := (Below.refl v5.heap.size v5).alloc (Nat.le_refl _) (.cells #[.string X] 9)
          have HNW := Lib.hid (sl_one (Blk.new' v5 9 (c := #[.string X]) [.string X] rfl))
          have HO := Lib.hid (o5.keep hb6)
          have HLO := Lib.hid o5.lt
          have HPA := Lib.hid a5
          have R6 := Lib.hid (K.below r5 hb6)
          have B6 := Lib.hid (b5.trans (hb6.mono b5.size))
          have HBA' := Lib.hid B6.out.size
          clear r5 t5 o5 a5 b5 hb6 HAP
          by_cases hcl : j < nc
          · have e1 : (j : Int) < (nc : Int) := by omega
            have e1' : decide ((j : Int) < (nc : Int)) = true := decide_eq_true e1
            obtain ⟨cd, rfl, cc0⟩ := SlO.cell (HS1.out.below GB.out) (by rw [HNC.out]; exact hcl)
            have CELLC0 := Lib.hid (fun wx (h : Below w.heap.size w wx) => SlO.cell (HS1.out.below h) (j := j) (by rw [HNC.out]; exact hcl))
            obtain ⟨bv, hbv⟩ : ∃ bv, C.getD j false = bv := ⟨_, rfl⟩
            rw [hbv] at CELLC0
            have CELLC : Hid (∀ wx, Below w.heap.size w wx → wx.cell? (cd.add j) = some (.bool bv)) := Lib.hid fun wx h => by
              obtain ⟨a', e, q0⟩ := CELLC0.out wx h
              cases e
              exact q0
            clear CELLC0 hbv cc0 hcl
            cases bv with
            | true =>
              go_wp2_with (refine wpList_append_rows rfl _ _ 22 rfl w.heap.size 9 i1 (.string ⟨#[]⟩) 1 16 Try.underlying22 hi1 hy0 hy1 hy2 rfl (by decide) _ (rowsS fs) rfl HO.out (.slice (some ⟨v5.heap.size, 0, none⟩) 1 1) [[.string X]] rfl HNW.out HONE.out HLEN.out HBY.out HBA'.out (.inr ⟨_, _, _, rfl⟩) ?_; intro v8 wk ho8 hg8 hv8; rw [← HRK.out] at ho8; obtain ⟨pk, ck, rfl⟩ := ho8.isSlice; rw [rowsS_len] at ho8 hv8; rw [rowsS_len]; have RK := Lib.hid (K.grown R6.out hg8 HPA.out); have BK := Lib.hid (B6.out.grown hg8 HBA'.out (fun k e => (HLO.out k e).1)); have OK := Lib.hid ho8; have PK : Hid (Apart F5 (.slice pk fk.length ck)) := Lib.hid (apart_grown hv8 HPA.out (fun b hf => (K.lt R6.out b hf).2)); have cc1 := CELLC.out wk BK.out; clear ho8 hg8 hv8)
              have hcr := HCR.out wk D dk _ ((J, mk) :: js) F5 RK.out (IK.out.dk.more (by omega)) BK.out rfl
              refine hcr.mono ?_
              rintro e v9 ⟨F9, rfl, r9, t9⟩
              obtain ⟨o9, a9⟩ := t9.own OK.out PK.out
              have IC := Lib.hid (IK.out.crash keep)
              clear hcr
              generalize crashD dk keep = dc at *
              have b9 := BK.out.trans t9.b
              obtain ⟨s9, m9⟩ := IC.out.open_
              have HOP := Lib.hid (K.open_ r9 (IC.out.dk.more (by omega)) b9.size 2 38 (by decide) (by rw [IC.out.len]; decide) (by decide) fk _ s9)
              rw [m9] at HOP
              have O9 := Lib.hid o9
              have P9 := Lib.hid a9
              have B9 := Lib.hid b9
              have h38 := IC.out.tq
              have h2 := IC.out.fr
              have hlk := IC.out.ok.le
              have hxk := IC.out.ok.nx
              obtain ⟨rk, hrk⟩ : ∃ rk, mk.to - mk.nx = rk := ⟨_, rfl⟩
              have HRM := Lib.hid (fun (wx : World) (J' : Nat) (js' : List (Nat × JurM)) (F' : Nat → Prop) (h : K.St w.heap.size wx D dc ((J', mk) :: js') F') (hw : w.heap.size ≤ wx.heap.size) => K.room h hw ⟨by omega, hlk, by omega⟩ rk hrk)
              clear o9 a9 b9 s9 m9 r9 t9 h38 h2 hlk hxk hrk
              go_wp2_with fail
              refine HOP.out.mono ?_
              rintro e v10 ⟨J10, p10, c10, F10, rfl, r10, q10, t10⟩
              obtain ⟨o10, a10⟩ := t10.own O9.out P9.out
              have O10 := Lib.hid o10
              have P10 := Lib.hid a10
              have R10 := Lib.hid r10
              have B10 := Lib.hid (B9.out.trans t10.b)
              have HKS := Lib.hid (kr_Same fk p10 pk c10 ck v10 (by have := IC.out.cj; omega) q10 o10.sl)
              clear o10 a10 r10 q10 t10 HOP
              unfold ptD
              go_wp2_with fail
              refine HKS.out.mono ?_
              rintro e v11 ⟨rfl, c11⟩
              have O11 := Lib.hid (O10.out.keep c11)
              have R11 := Lib.hid (K.below R10.out c11)
              have B11 := Lib.hid (B10.out.trans (c11.mono B10.out.size))
              clear c11 HKS
              go_wp2_with fail
              refine (HRM.out v11 J10 _ F10 R11.out B11.out.size).mono ?_
              rintro e v12 ⟨rfl, c12⟩
              have O12 := Lib.hid (O11.out.keep c12)
              have R12 := Lib.hid (K.below R11.out c12)
              have B12 := Lib.hid (B11.out.trans (c12.mono B11.out.size))
              clear c12
              go_wp2_with fail
              refine (HRM.out v12 J _ F10 (K.swap R12.out) B12.out.size).mono ?_
              rintro e v13 ⟨rfl, c13⟩
              have O13 := Lib.hid (O12.out.keep c13)
              have R13 := Lib.hid (K.below R12.out c13)
              have B13 := Lib.hid (B12.out.trans (c13.mono B12.out.size))
              clear c13
              go_wp2
              go_roundw
              case rel => exact ⟨j + 1, J10, dc, mk, fk, (J, mk) :: js, F10, pk, ck, rfl, rfl, by go_num, by omega, IC.out, O13.out, P10.out, R13.out, B13.out⟩
              case measure => simp [intOf]; omega
            | false =>
              go_wp2_with (refine wpList_append_rows rfl _ _ 22 rfl w.heap.size 9 i1 (.string ⟨#[]⟩) 1 16 Try.underlying22 hi1 hy0 hy1 hy2 rfl (by decide) _ (rowsS fs) rfl HO.out (.slice (some ⟨v5.heap.size, 0, none⟩) 1 1) [[.string X]] rfl HNW.out HONE.out HLEN.out HBY.out HBA'.out (.inr ⟨_, _, _, rfl⟩) ?_; intro v8 wk ho8 hg8 hv8; rw [← HRK.out] at ho8; obtain ⟨pk, ck, rfl⟩ := ho8.isSlice; rw [rowsS_len] at ho8 hv8; rw [rowsS_len]; have RK := Lib.hid (K.grown R6.out hg8 HPA.out); have BK := Lib.hid (B6.out.grown hg8 HBA'.out (fun k e => (HLO.out k e).1)); have OK := Lib.hid ho8; have PK : Hid (Apart F5 (.slice pk fk.length ck)) := Lib.hid (apart_grown hv8 HPA.out (fun b hf => (K.lt R6.out b hf).2)); have cc1 := CELLC.out wk BK.out; clear ho8 hg8 hv8)
              go_roundw
              case rel => exact ⟨j + 1, J, dk, mk, fk, js, F5, pk, ck, rfl, rfl, by go_num, by omega, IK.out, OK.out, PK.out, RK.out, BK.out⟩
              case measure => simp [intOf]; omega
          · have e1 : ¬ (j : Int) < (nc : Int) := by omega
            have e1' : decide ((j : Int) < (nc : Int)) = false := decide_eq_false e1
            clear hcl
            go_wp2_with (refine wpList_append_rows rfl _ _ 22 rfl w.heap.size 9 i1 (.string ⟨#[]⟩) 1 16 Try.underlying22 hi1 hy0 hy1 hy2 rfl (by decide) _ (rowsS fs) rfl HO.out (.slice (some ⟨v5.heap.size, 0, none⟩) 1 1) [[.string X]] rfl HNW.out HONE.out HLEN.out HBY.out HBA'.out (.inr ⟨_, _, _, rfl⟩) ?_; intro v8 wk ho8 hg8 hv8; rw [← HRK.out] at ho8; obtain ⟨pk, ck, rfl⟩ := ho8.isSlice; rw [rowsS_len] at ho8 hv8; rw [rowsS_len]; have RK := Lib.hid (K.grown R6.out hg8 HPA.out); have BK := Lib.hid (B6.out.grown hg8 HBA'.out (fun k e => (HLO.out k e).1)); have OK := Lib.hid ho8; have PK : Hid (Apart F5 (.slice pk fk.length ck)) := Lib.hid (apart_grown hv8 HPA.out (fun b hf => (K.lt R6.out b hf).2)); clear ho8 hg8 hv8)
            go_roundw
            case rel => exact ⟨j + 1, J, dk, mk, fk, js, F5, pk, ck, rfl, rfl, by go_num, by omega, IK.out, OK.out, PK.out, RK.out, BK.out⟩
            case measure => simp [intOf]; omega
        · have hfull : apE m X0.length = 2 := by unfold apE; rw [hszl, hnd, if_neg (by omega)]
          have hd' : apD d m X0 = d := (ap_full (by rw [hfull]; decide)).1
          have hm' : apM m X0.length = m := (ap_full (d := d) (by rw [hfull]; decide)).2
          have HAP := Lib.hid (K.append RJ.out (HI.out.dk.more (by omega)) GB.out.size ⟨by omega, hle, by omega⟩ X (by omega) 2 d m (by rw [hsz, ← hszl]; exact hfull) (by rw [HT0.out]; exact hd') (by rw [hsz, ← hszl]; exact hm'))
          have HRM0 := Lib.hid (fun (wx : World) (F' : Nat → Prop) (h : K.St w.heap.size wx D d ((J, m) :: js) F') (hw : w.heap.size ≤ wx.heap.size) => K.room h hw ⟨by omega, hle, by omega⟩ r hrr)
          unfold ptD at HRM0
          have e9 : ((sz : Int) + 6 + 31) / 32 = (nd : Int) := by unfold secK at hnd; omega
          have e9t : ((sz : Int) + 6 + 31).tdiv 32 = (nd : Int) := by rw [Int.tdiv_eq_ediv_of_nonneg (by omega)]; exact e9
          have sz2 : sz ≤ 200 := by omega
          have nd9 : nd ≤ 10 := by unfold secK at hnd; omega
          have d6 : ¬ (nd : Int) ≤ (r : Int) := by omega
          have d6' : decide ((nd : Int) ≤ (r : Int)) = false := decide_eq_false d6
          have d6'' : decide ((r : Int) ≥ (nd : Int)) = false := decide_eq_false d6
          obtain ⟨dk, hdk⟩ : ∃ dk, dk = d := ⟨_, rfl⟩
          obtain ⟨mk, hmk⟩ : ∃ mk, mk = m := ⟨_, rfl⟩
          obtain ⟨fk, hfk⟩ : ∃ fk, fk = fs := ⟨_, rfl⟩
          subst hdk hmk hfk
          have IK := Lib.hid HI.out.more
          clear hfull hd' hm' hfr hto hnx hle hlen hfl hszl hnd hrr hrm xa hxl
          go_wp2_with fail
          refine HAP.out.mono ?_
          rintro e v5 ⟨F5, rfl, r5, t5⟩
          obtain ⟨o5, a5⟩ := t5.own OJ.out PJ.out
          have HO := Lib.hid o5
          have PK := Lib.hid a5
          have R5 := Lib.hid r5
          have B5 := Lib.hid (GB.out.trans t5.b)
          clear r5 t5 o5 a5 HAP
          go_wp2_with fail
          have QR := Lib.hid (fun wx (h : NewBut v5 wx) => (HRM0.out wx F5 (K.below R5.out (h : Below v5.heap.size v5 wx)) (Nat.le_trans B5.out.size h.size)).mono fun _ _ ⟨x1, x2⟩ => (⟨x1, h.trans (x2.mono h.size)⟩ : _ ∧ NewBut v5 _))
          have C1 : Hid (∀ wx, NewBut v5 wx → wx.cell? (ad.add j) = some (.string X)) := Lib.hid fun wx h => CELL.out wx (B5.out.trans (Below.mono h B5.out.size))
          refine region_quiet_tail (C := NewBut v5) 14 mixed (by kernel_rfl) (show Below _ _ _ from (Below.refl _ _).drew) ?_
          simp only [List.take_succ_cons, List.take_zero, List.drop_succ_cons, List.drop_zero]
          repeat (first | go_big_quiet_step (fail) | (refine wpQuiet_load_one rfl 9 _ rfl (ad.add j) rfl _ C1.out Try.underlying9 rfl ?_) | (refine wpQuiet_step (fun K' hK' => ?_); go_simp; first | (refine hK' _ ?_; clear hK' K') | ((with_reducible refine ⟨_, fun wx hx => QR.out wx hx, hK' _ ?_⟩); clear hK' K') | (refine ⟨_, fun _ _ => rfl, hK' _ ?_⟩; clear hK' K')))
          refine wpQuiet_nil ?_
          intro wk hb6
          have RK := Lib.hid (K.below R5.out (hb6 : Below v5.heap.size v5 wk))
          have BK := Lib.hid (B5.out.trans (Below.mono hb6 B5.out.size))
          have OK := Lib.hid (HO.out.keep hb6)
          obtain ⟨pk, hpk⟩ : ∃ pk, pk = pw := ⟨_, rfl⟩
          obtain ⟨ck, hck⟩ : ∃ ck, ck = cw := ⟨_, rfl⟩
          subst hpk hck
          clear hb6
          by_cases hcl : j < nc
          · have e1 : (j : Int) < (nc : Int) := by omega
            have e1' : decide ((j : Int) < (nc : Int)) = true := decide_eq_true e1
            obtain ⟨cd, rfl, cc0⟩ := SlO.cell (HS1.out.below GB.out) (by rw [HNC.out]; exact hcl)
            have CELLC0 := Lib.hid (fun wx (h : Below w.heap.size w wx) => SlO.cell (HS1.out.below h) (j := j) (by rw [HNC.out]; exact hcl))
            obtain ⟨bv, hbv⟩ : ∃ bv, C.getD j false = bv := ⟨_, rfl⟩
            rw [hbv] at CELLC0
            have CELLC : Hid (∀ wx, Below w.heap.size w wx → wx.cell? (cd.add j) = some (.bool bv)) := Lib.hid fun wx h => by
              obtain ⟨a', e, q0⟩ := CELLC0.out wx h
              cases e
              exact q0
            clear CELLC0 hbv cc0 hcl
            cases bv with
            | true =>
              have cc1 := CELLC.out wk BK.out
              go_wp2_with fail
              have hcr := HCR.out wk D dk _ ((J, mk) :: js) F5 RK.out (IK.out.dk.more (by omega)) BK.out rfl
              refine hcr.mono ?_
              rintro e v9 ⟨F9, rfl, r9, t9⟩
              obtain ⟨o9, a9⟩ := t9.own OK.out PK.out
              have IC := Lib.hid (IK.out.crash keep)
              clear hcr
              generalize crashD dk keep = dc at *
              have b9 := BK.out.trans t9.b
              obtain ⟨s9, m9⟩ := IC.out.open_
              have HOP := Lib.hid (K.open_ r9 (IC.out.dk.more (by omega)) b9.size 2 38 (by decide) (by rw [IC.out.len]; decide) (by decide) fk _ s9)
              rw [m9] at HOP
              have O9 := Lib.hid o9
              have P9 := Lib.hid a9
              have B9 := Lib.hid b9
              have h38 := IC.out.tq
              have h2 := IC.out.fr
              have hlk := IC.out.ok.le
              have hxk := IC.out.ok.nx
              obtain ⟨rk, hrk⟩ : ∃ rk, mk.to - mk.nx = rk := ⟨_, rfl⟩
              have HRM := Lib.hid (fun (wx : World) (J' : Nat) (js' : List (Nat × JurM)) (F' : Nat → Prop) (h : K.St w.heap.size wx D dc ((J', mk) :: js') F') (hw : w.heap.size ≤ wx.heap.size) => K.room h hw ⟨by omega, hlk, by omega⟩ rk hrk)
              clear o9 a9 b9 s9 m9 r9 t9 h38 h2 hlk hxk hrk
              go_wp2_with fail
              refine HOP.out.mono ?_
              rintro e v10 ⟨J10, p10, c10, F10, rfl, r10, q10, t10⟩
              obtain ⟨o10, a10⟩ := t10.own O9.out P9.out
              have O10 := Lib.hid o10
              have P10 := Lib.hid a10
              have R10 := Lib.hid r10
              have B10 := Lib.hid (B9.out.trans t10.b)
              have HKS := Lib.hid (kr_Same fk p10 pk c10 ck v10 (by have := IC.out.cj; omega) q10 o10.sl)
              clear o10 a10 r10 q10 t10 HOP
              unfold ptD
              go_wp2_with fail
              refine HKS.out.mono ?_
              rintro e v11 ⟨rfl, c11⟩
              have O11 := Lib.hid (O10.out.keep c11)
              have R11 := Lib.hid (K.below R10.out c11)
              have B11 := Lib.hid (B10.out.trans (c11.mono B10.out.size))
              clear c11 HKS
              go_wp2_with fail
              refine (HRM.out v11 J10 _ F10 R11.out B11.out.size).mono ?_
              rintro e v12 ⟨rfl, c12⟩
              have O12 := Lib.hid (O11.out.keep c12)
              have R12 := Lib.hid (K.below R11.out c12)
              have B12 := Lib.hid (B11.out.trans (c12.mono B11.out.size))
              clear c12
              go_wp2_with fail
              refine (HRM.out v12 J _ F10 (K.swap R12.out) B12.out.size).mono ?_
              rintro e v13 ⟨rfl, c13⟩
              have O13 := Lib.hid (O12.out.keep c13)
              have R13 := Lib.hid (K.below R12.out c13)
              have B13 := Lib.hid (B12.out.trans (c13.mono B12.out.size))
              clear c13
              go_wp2
              go_roundw
              case rel => exact ⟨j + 1, J10, dc, mk, fk, (J, mk) :: js, F10, pk, ck, rfl, rfl, by go_num, by omega, IC.out, O13.out, P10.out, R13.out, B13.out⟩
              case measure => simp [intOf]; omega
            | false =>
              have cc1 := CELLC.out wk BK.out
              go_wp2_with fail
              go_roundw
              case rel => exact ⟨j + 1, J, dk, mk, fk, js, F5, pk, ck, rfl, rfl, by go_num, by omega, IK.out, OK.out, PK.out, RK.out, BK.out⟩
              case measure => simp [intOf]; omega
          · have e1 : ¬ (j : Int) < (nc : Int) := by omega
            have e1' : decide ((j : Int) < (nc : Int)) = false := decide_eq_false e1
            clear hcl
            go_wp2_with fail
            go_roundw
            case rel => exact ⟨j + 1, J, dk, mk, fk, js, F5, pk, ck, rfl, rfl, by go_num, by omega, IK.out, OK.out, PK.out, RK.out, BK.out⟩
            case measure => simp [intOf]; omega
    · obtain rfl : j = na := by omega
      have d1 : ¬ (j : Int) < (j : Int) := by omega
      obtain ⟨s9, m9⟩ := HI.out.open_
      have HOP := Lib.hid (K.open_ RJ.out (HI.out.dk.more (by omega)) GB.out.size 2 38 (by decide) (by rw [HI.out.len]; decide) (by decide) fs _ s9)
      have h38 := HI.out.tq
      have h2 := HI.out.fr
      have hlk := HI.out.ok.le
      have hxk := HI.out.ok.nx
      obtain ⟨r, hr⟩ : ∃ r, m.to - m.nx = r := ⟨_, rfl⟩
      obtain ⟨u, hu⟩ : ∃ u, m.nx - m.fr = u := ⟨_, rfl⟩
      have e5 : (u : Int) + (r : Int) = 36 := by omega
      have ur : u ≤ 36 ∧ r ≤ 36 := by omega
      have HRM := Lib.hid (fun (wx : World) (js' : List (Nat × JurM)) (F' : Nat → Prop) (h : K.St w.heap.size wx D d ((J, m) :: js') F') (hw : w.heap.size ≤ wx.heap.size) => K.room h hw ⟨by omega, hlk, by omega⟩ r hr)
      have HUS := Lib.hid (fun (wx : World) (js' : List (Nat × JurM)) (F' : Nat → Prop) (h : K.St w.heap.size wx D d ((J, m) :: js') F') (hw : w.heap.size ≤ wx.heap.size) => K.used h hw ⟨by omega, hlk, by omega⟩ u hu)
      clear s9 m9 h38 h2 hlk hxk hr hu
      go_wp2_with fail
      refine HOP.out.mono ?_
      rintro e v10 ⟨J10, p10, c10, F10, rfl, r10, q10, t10⟩
      obtain ⟨o10, a10⟩ := t10.own OJ.out PJ.out
      have R10 := Lib.hid r10
      have B10 := Lib.hid (GB.out.trans t10.b)
      have HKS := Lib.hid (kr_Same fs p10 pw c10 cw v10 (by have := HI.out.cj; omega) q10 o10.sl)
      clear o10 a10 r10 q10 t10 HOP
      unfold ptD
      go_wp2_with fail
      refine HKS.out.mono ?_
      rintro e v11 ⟨rfl, c11⟩
      have R11 := Lib.hid (K.below R10.out c11)
      have B11 := Lib.hid (B10.out.trans (c11.mono B10.out.size))
      clear c11 HKS
      go_wp2_with fail
      refine (HUS.out v11 _ F10 (K.swap R11.out) B11.out.size).mono ?_
      rintro e v12 ⟨rfl, c12⟩
      have R12 := Lib.hid (K.below R11.out c12)
      have B12 := Lib.hid (B11.out.trans (c12.mono B11.out.size))
      clear c12
      go_wp2_with fail
      refine (HRM.out v12 _ F10 (K.swap R12.out) B12.out.size).mono ?_
      rintro e v13 ⟨rfl, c13⟩
      have B13 := Lib.hid (B12.out.trans (c13.mono B12.out.size))
      clear c13
      go_wp2
      go_ret
      exact ⟨rfl, B13.out⟩
theorem walk (S : List (List Nat)) (p0 : Option Addr) (cap0 : Nat) (C : List Bool) (p1 : Option Addr) (cap1 : Nat) (keep : List Nat) (p2 : Option Addr) (cap2 : Nat) {Q0 Q1 : Prop} (h0 : (∀ x ∈ S, Bys x) ∧ Q0) (h1 : Q1) (h2 : ∀ q ∈ keep, q < 256) (w : World) (hS0 : Sl w 1 (.slice p0 S.length cap0) (rowsS S)) (hS1 : Sl w 1 (.slice p1 C.length cap1) (rowsO C)) (hS2 : Sl w 1 (.slice p2 keep.length cap2) (rowsU .u8 keep)) :
    Calls Try.prog 3 #[.slice p0 S.length cap0, .slice p1 C.length cap1, .slice p2 keep.length cap2] w fun e w' => e = .returned (.bool true) ∧ Below w.heap.size w w' := walkK theJur S C keep p0 p1 p2 cap0 cap1 cap2 h0.1 (Bys.of h2) w hS0 hS1 hS2
set_option maxRecDepth 100000 in
theorem lifted (os : Os) (started : os.Started) (H : Type) (enc : TypeId × Value → H) :
    ReturnsInHanded {} Try.checked os 3 .any (Rows.journalFindsSpec.pre6 enc Try.prog Try.f3 Rows.journalFindsRow.domain false) (Rows.journalFindsSpec.post enc Try.prog Try.f3 false true false false) := by
  refine returnsInHanded_of_change (C := Try.checked) own started (by kernel_rfl) Try.func3
    (ChangeSpec.witness6 (enc := enc) (C := Try.checked) false ⟨#[], #[.slice none 0 0, .slice none 0 0, .slice none 0 0], []⟩ 8 (by kernel_rfl) (by kernel_rfl) (by kernel_rfl) (by kernel_rfl)) ?_
  intro W base args ds gs before hval0 hW hcnd _
  have hval : ∀ (j : Nat) t v, Try.f3.params[j]? = some t → args[j]? = some v → Value.okWide Try.prog W .any base t v := hval0
  have hW' := hW
  obtain ⟨p, q, hA0, hV, rfl, hfz, hnd⟩ := hW
  have hA : DataW.TrodAll enc Try.prog W 0 (fun _ => true) true Try.f3.params.toList args.toList ds p := hA0
  rw [Try.params3] at hA hval
  obtain ⟨v0, vs0, d0, ds0, p0, q0, hargs, rfl, rfl, h0, r0⟩ := trodAll_cons hA
  obtain ⟨v1, vs1, d1, ds1, p1, q1, rfl, rfl, rfl, h1, r1⟩ := trodAll_cons r0
  obtain ⟨v2, vs2, d2, ds2, p2, q2, rfl, rfl, rfl, h2, r2⟩ := trodAll_cons r1
  obtain ⟨rfl, rfl, rfl⟩ := trodAll_nil r2
  obtain rfl : args = #[v0, v1, v2] := by cases args; simp_all
  obtain ⟨rfl, rfl⟩ := trodVars_none hV
  have k0 := h0
  have lt0 : ∀ x ∈ p0, x.block < W.heap.size := by obtain ⟨m, hm⟩ := k0; exact DataW.trod_lt m _ _ _ hm
  obtain ⟨a0, m0, c0, rfl⟩ := Go.WideShapes.okWide_slice Try.underlying22 (hval 0 22 v0 rfl rfl)
  obtain ⟨l0, rfl, S0, n0⟩ := open_texts h0
  have k1 := h1
  have lt1 : ∀ x ∈ p1, x.block < W.heap.size := by obtain ⟨m, hm⟩ := k1; exact DataW.trod_lt m _ _ _ hm
  obtain ⟨a1, m1, c1, rfl⟩ := Go.WideShapes.okWide_slice Try.underlying23 (hval 1 23 v1 rfl rfl)
  obtain ⟨l1, rfl, S1, n1⟩ := open_bools h1
  have k2 := h2
  have lt2 : ∀ x ∈ p2, x.block < W.heap.size := by obtain ⟨m, hm⟩ := k2; exact DataW.trod_lt m _ _ _ hm
  obtain ⟨a2, m2, c2, rfl⟩ := Go.WideShapes.okWide_slice Try.underlying24 (hval 2 24 v2 rfl rfl)
  obtain ⟨l2, rfl, S2, n2⟩ := open_u8s h2
  clear hA0 hval0
  simp only [List.append_nil] at hW'
  refine (walk l0 a0 c0 l1 a1 c1 l2 a2 c2 n0 n1 n2 W S0 S1 S2).mono fun e W' ⟨he, bel⟩ => ?_
  subst he
  exact ⟨_, rfl, _, _, _, [], _, [], hW', trodAll_mk1 (shut_bool Try.underlying4 _), (trodAll_cons_mk (Below.trod laidOut (by kernel_rfl) (of_decide_eq_true (by kernel_rfl)) k0 bel lt0) (trodAll_cons_mk (Below.trod laidOut (by kernel_rfl) (of_decide_eq_true (by kernel_rfl)) k1 bel lt1) (trodAll_cons_mk (Below.trod laidOut (by kernel_rfl) (of_decide_eq_true (by kernel_rfl)) k2 bel lt2) trodAll_mk0))), rfl, bel.frame _, fun h => by cases h⟩

theorem over : Rows.journalFindsRow.holds Try.pinned (OpenSpec.ofChange Rows.journalFindsSpec) :=
  OpenClaim.holds_of_wide 3 Try.f3 rfl rfl rfl rfl rfl rfl rfl ⟨rfl, rfl, rfl, rfl, rfl⟩ rfl rfl rfl rfl rfl (by kernel_rfl) Try.func3 (by kernel_rfl)
    (of_decide_eq_true (by kernel_rfl)) (by unfold Func.isWrapper; first | (rw [if_pos (by decide +kernel)]; kernel_rfl) | (rw [if_neg (by decide +kernel)]; exact ⟨rfl, rfl⟩))
    (fun os started H enc _ => lifted os started H enc)

theorem proved : Rows.JournalFindsSaid :=
  over
#print axioms proved
end Go.Proofs.Ytmonenbnjnjahaa.journalFinds
