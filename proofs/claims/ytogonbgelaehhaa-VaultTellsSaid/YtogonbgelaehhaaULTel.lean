/- VaultTells is proved: what any requests (of no more than may be) come to, each one's reply, which blocks are live, and what an op does behind them, are the document's. Conditions: none besides the statement's own. -/
import Derived.Test.YtogonbgelaehhaaUGd
import Derived.Test.YtogonbgelaehhaaUSam
import Derived.Test.YtogonbgelaehhaaUPaN
import Derived.Test.YtogonbgelaehhaaG1
import Derived.Test.YtogonbgelaehhaaG4
import Derived.Test.YtogonbgelaehhaaUWe
namespace Go.Proofs.Ytogonbgelaehhaa.vaultTells
open Go.RowKit Go.ChangeShapes Go.WideShapes
set_option linter.unusedVariables false

/-- a slice of live blocks -/
def LvS (LV : List (List Nat)) (v : Value) (W : World) : Prop := ∃ p c, v = .slice p LV.length c ∧ Sl W 32 v (rowsH LV)
theorem lv_own {W : World} {base : Nat} {LV : List (List Nat)} {v : Value} (h : OwnR W base 64 32 v (rowsH LV)) : LvS LV v W := by
  obtain ⟨p, c, e⟩ := h.isSlice
  rw [rowsH_len] at e
  exact ⟨p, c, e, h.sl⟩
theorem doS_C {s : StU RawV} (h : StS s) (kind : Int) (id : Nat) {a : RawV} (ha : VerS a) : StOkC ⟨(doR s.vers kind id a).1, s.seqs, s.last⟩ := by
  refine ⟨Nat.le_trans (do_vers RawV.id mayR noV h.1.vers kind id a).few (by decide), fun i hi => verS_C ((do_S h.1.vers h.2.1 kind id ha).1 _ ?_), fun i _ => repS_ok (lastS h i)⟩
  have hi : i < (doR s.vers kind id a).1.length := hi
  show ((doR s.vers kind id a).1).getD i noV ∈ _
  rw [List.getD_eq_getElem?_getD, List.getElem?_eq_getElem hi]
  exact List.getElem_mem _
def tlF (p pa pb : Option Addr) (n c ca cb : Nat) (O S T : List Value) (B0 y z : Nat) (u : Nat → Value) : Array Value :=
  #[Value.slice p n c, Value.agg O.toArray, undef, Value.pointer (some ⟨B0, 0, none⟩), Value.bool false, Value.pointer (some ⟨y, 0, none⟩), Value.slice pa n ca, Value.pointer (some ⟨z, 0, none⟩), Value.slice pb n cb, undef, undef, undef, undef, undef, Value.slice p n c, Value.bool false, Value.bool false, Value.pointer (some ⟨B0, 2, none⟩), Value.agg (List.drop 2 O).toArray, Value.bool false, Value.bool false, Value.bool false, Value.bool true, Value.bool false, Value.bool false, undef, Value.tuple #[Value.agg S.toArray, Value.slice pa n ca], Value.slice p n c, Value.tuple #[Value.agg S.toArray, Value.slice pa n ca], Value.agg S.toArray, Value.slice pa n ca, Value.tuple #[Value.agg T.toArray, Value.slice pb n cb], Value.slice p n c, Value.tuple #[Value.agg T.toArray, Value.slice pb n cb], Value.agg T.toArray, Value.slice pb n cb, u 0, u 1, u 2, u 3, u 4, u 5, u 6, u 7, u 8, u 9, u 10, u 11, u 12, u 13, u 14, u 15, u 16, u 17, u 18, undef, undef, undef, undef, undef, undef, undef, undef, undef, undef, undef, undef, undef, undef, undef, undef, undef, undef, undef, undef, undef, undef, undef, undef, undef, undef, undef, undef, undef, undef, undef, undef, undef, undef, undef, undef, undef, undef, undef, undef, undef, undef, undef, undef, undef, undef, undef, undef, undef, undef, undef, undef, undef, undef, undef]
def t5S (n y z : Nat) (ap bp : Value) (S T : List Value) (LV : List (List Nat)) (i : Nat) (v : Value) (W : World) : Prop := match i with
  | 0 => v = ap | 1 => v = .int .i64 (n : Int) | 2 => v = bp | 3 => v = .int .i64 (n : Int) | 4 | 5 | 9 | 10 | 11 | 17 | 18 => v = .bool false | 6 | 12 => v = .agg S.toArray | 7 | 14 => v = .agg T.toArray | 8 | 16 => v = .bool true
  | 13 | 15 => LvS LV v W
  | _ => True
theorem live_fewT {s : StU RawV} (h : StS s) : (liveU (blksV s.vers)).length ≤ 1000000 := by
  have h1 := live_len (blksV s.vers)
  have h2 : ∀ (l : List RawV), (∀ v ∈ l, v.bl.length ≤ 1000) → (blksV l).length ≤ 1000 * l.length := fun l => by
    induction l with
    | nil => exact fun _ => Nat.le_refl _
    | cons v l ih =>
      intro h
      have h1 := ih fun v hv => h v (by simp [hv])
      have h2 := h v (by simp)
      unfold blksV at h1 ⊢
      rw [List.flatMap_cons, List.length_append, List.length_cons]
      omega
  have h3 := h2 s.vers fun v hv => (h.2.1 v hv).2.1
  have h4 := h.1.vers.few
  omega
theorem live_hashT {s : StU RawV} (h : StS s) : HashL (liveU (blksV s.vers)) := live_all _ fun x hx => by
  obtain ⟨v, hv, hx⟩ := List.mem_flatMap.1 hx
  exact (h.2.1 v hv).1.2.1 x hx
theorem getD_memR {l : List (RepU RawV)} {j : Nat} (h : j < l.length) : l.getD j (wrongU noV 0) ∈ l := by
  rw [List.getD_eq_getElem?_getD, List.getElem?_eq_getElem h]
  exact List.getElem_mem _
theorem rep_rows {w : World} {p : Option Addr} {n c : Nat} {rows : List (List Value)} {L : List (RepU RawV)} (hS : Sl w 6 (.slice p n c) rows) {lo : Nat} (hT : TellRs (er lo w) rows L) {j : Nat} (hj : j < L.length) : ∃ (a : Addr) (r : List Value), p = some a ∧ RepOkV (er lo w) r (L.getD j (wrongU noV 0)) ∧ (∀ i x, r[i]? = some x → w.cell? ((a.add (j * 6)).add i) = some x) := by
  obtain ⟨r, e1, e2⟩ := hT.2 j hj
  obtain ⟨a, rfl, hc⟩ := hS.row e1
  exact ⟨a, r, rfl, e2, fun i x hx => hc i x hx⟩
set_option maxRecDepth 100000 in
set_option maxHeartbeats 8000000 in
theorem walkK (K : VaultKit) (l : List (ReqU RawV)) (p : Option Addr) (c : Nat) (kind : Int) (id : Nat) (a : RawV) (vo : Value) (hin : ∀ r ∈ l, ReqIn r) (hio : OpIn kind id a) (w : World) (hq : ReqsV w (.slice p l.length c) l) (ho : OpTold w vo kind id a) :
    Calls Try.prog 3 #[.slice p l.length c, vo] w fun e w' => e = .returned (.bool true) ∧ Below w.heap.size w w' := by
  obtain ⟨O, rfl, hOl, hO0, hO1, hO2, hOv⟩ := op_cells ho
  obtain ⟨B0, hB0⟩ : ∃ B0, w.heap.size = B0 := ⟨_, rfl⟩
  have k0 := Blk.newAt w B0 hB0 30 (c := O.toArray) O rfl
  have kb := (Below.refl w.heap.size w).alloc (Nat.le_refl _) (.cells O.toArray 30)
  have K0 := Lib.hid k0
  have KB := Lib.hid kb
  have HO := Lib.hid ho
  have HQ := Lib.hid hq
  have HOL := Lib.hid hOl
  have hd4 : (O.drop 2).length = 4 := by rw [List.length_drop, hOl]
  have HD4 := Lib.hid hd4
  have HS := Lib.hid (fun wx => l17_shown K wx)
  have HM := Lib.hid (fun (b : Bool) (hb : muchV a = b) (wx : World) (h : Below w.heap.size w wx) => l17_much a (.agg (O.drop 2).toArray) b wx hb (hOv.below h))
  have HCL : Hid (∀ wx, Blk wx B0 30 O → ∀ i x, (O.drop 2)[i]? = some x → wx.cell? ((⟨B0, 2, none⟩ : Addr).add i) = some x) := Lib.hid fun wx hB i x hx => by
    rw [Addr.add_mid, hB.cell]
    rw [List.getElem?_drop] at hx
    exact hx
  have HH := Lib.hid (fun (b : Bool) (hb : heavyQ l = b) => l17_heavy l p c b (w.alloc (.cells O.toArray 30)) hb (hq.below kb))
  clear k0 kb ho hq hOl hO0 hO1 hO2 hOv hd4
  cases hh : heavyQ l with
  | true =>
    have HH1 := Lib.hid (HH.out true hh)
    clear HH
    go_enter Try.func3, Try.ntmps3
    go_wp2_with fail
    (with_reducible refine HH1.out.mono ?_)
    rintro e w1 ⟨rfl, b1⟩
    have B1 := Lib.hid (KB.out.trans (b1.mono KB.out.size))
    clear b1
    go_wp2_with (first | (go_skip) | fail)
    (with_reducible refine (HS.out _).mono ?_)
    rintro e w9 ⟨rfl, b9⟩
    have B9 := Lib.hid (B1.out.trans (b9.mono B1.out.size))
    clear b9
    go_wp2
    go_ret
    exact ⟨rfl, B9.out⟩
  | false =>
    have HH1 := Lib.hid (HH.out false hh)
    clear HH
    cases hm : muchV a with
    | true =>
      have HM1 := Lib.hid (HM.out true hm)
      clear HM
      go_enter Try.func3, Try.ntmps3
      go_wp2_with fail
      (with_reducible refine HH1.out.mono ?_)
      rintro e w1 ⟨rfl, b1⟩
      have B1 := Lib.hid (KB.out.trans (b1.mono KB.out.size))
      have K1 := Lib.hid (K0.out.below b1 K0.out.lt)
      have HV1 := Lib.hid (HCL.out _ K1.out)
      have HM2 := Lib.hid (HM1.out w1 B1.out)
      clear b1
      go_wp2_with (first | (go_skip) | (refine wpList_load_addrV rfl 28 _ rfl ⟨B0, 2, none⟩ rfl (O.drop 2) HV1.out Try.underlying28 rfl (by rw [size_ver, HD4.out]) ?_))
      (with_reducible refine HM2.out.mono ?_)
      rintro e w2 ⟨rfl, b2⟩
      have B2 := Lib.hid (B1.out.trans (b2.mono B1.out.size))
      clear b2
      go_wp2_with (first | (go_skip) | fail)
      (with_reducible refine (HS.out _).mono ?_)
      rintro e w9 ⟨rfl, b9⟩
      have B9 := Lib.hid (B2.out.trans (b9.mono B2.out.size))
      clear b9
      go_wp2
      go_ret
      exact ⟨rfl, B9.out⟩
    | false =>
      obtain ⟨h60, hok⟩ := reqs_S hin hh
      have hva : VerS a := ver_S hio.2.2 hm
      have hid : id < 4294967296 := hio.2.1
      have hall := all_S l fun r hr => (hok r hr).2.2
      have HM1 := Lib.hid (HM.out false hm)
      have HA := Lib.hid (fun (wx : World) (hb : Below w.heap.size w wx) => K.all l p c wx w.heap.size hb.size (by omega) (HQ.out.below (below_er hb)) hok)
      have HR := Lib.hid (fun (wx : World) (hb : Below w.heap.size w wx) => vr_All l p c wx w.heap.size hb.size (by omega) (HQ.out.below (below_er hb)) (fun r hr => ⟨(hok r hr).1, (hok r hr).2.1, (hok r hr).2.2.1, (hok r hr).2.2.2⟩))
      have hlen := allR_len l
      obtain ⟨s, hs⟩ : ∃ s, (allR l).1 = s := ⟨_, rfl⟩
      obtain ⟨L2, hL2⟩ : ∃ L2, (allR l).2 = L2 := ⟨_, rfl⟩
      rw [hs, hL2] at hall HA HR
      rw [hL2] at hlen
      have HSS := Lib.hid hall.1
      have HRS := Lib.hid hall.2
      have HID := Lib.hid hid
      have HVA := Lib.hid hva
      have HLE := Lib.hid hlen
      have H60 := Lib.hid h60
      clear HM hok hva hid hall hs hL2 hlen h60
      go_enter Try.func3, Try.ntmps3
      go_wp2_with fail
      (with_reducible refine HH1.out.mono ?_)
      rintro e w1 ⟨rfl, b1⟩
      have B1 := Lib.hid (KB.out.trans (b1.mono KB.out.size))
      have K1 := Lib.hid (K0.out.below b1 K0.out.lt)
      have HV1 := Lib.hid (HCL.out _ K1.out)
      have HM2 := Lib.hid (HM1.out w1 B1.out)
      clear b1
      go_wp2_with (first | (go_skip) | (refine wpList_load_addrV rfl 28 _ rfl ⟨B0, 2, none⟩ rfl (O.drop 2) HV1.out Try.underlying28 rfl (by rw [size_ver, HD4.out]) ?_))
      (with_reducible refine HM2.out.mono ?_)
      rintro e w2 ⟨rfl, b2⟩
      have B2 := Lib.hid (B1.out.trans (b2.mono B1.out.size))
      have K2 := Lib.hid (K1.out.below b2 K1.out.lt)
      clear b2 HV1 HM1 HM2 HH1 KB K0 K1 B1
      go_wp2_with (first | (go_skip) | fail)
      (with_reducible refine (HS.out _).mono ?_)
      rintro e w3 ⟨rfl, b3⟩
      have B3 := Lib.hid (B2.out.trans (b3.mono B2.out.size))
      have K3 := Lib.hid (K2.out.below b3 K2.out.lt)
      clear b3 HS B2 K2
      go_wp2_with fail
      (with_reducible refine (HA.out w3 B3.out).mono ?_)
      rintro e w4 ⟨v', va, rows, rfl, hst, hro, hre, b4⟩
      obtain ⟨S, rfl, hSl, hSo⟩ := st_row hst
      obtain ⟨pa, ca, rfl⟩ := hro.isSlice
      have hrl : rows.length = l.length := by rw [hre.1, HLE.out]
      rw [hrl] at hro ⊢
      obtain ⟨y, hy⟩ : ∃ y, w4.heap.size = y := ⟨_, rfl⟩
      obtain ⟨w5, o5⟩ := oneV 42 w4 y hy S hSl hSo
      have B4 := Lib.hid (B3.out.trans (b4.mono B3.out.size))
      have B5 := Lib.hid (B4.out.trans (o5.bl.mono B4.out.size))
      have ST5 := Lib.hid (hst.below (er_belowS w.heap.size o5.bl))
      have SA5 := Lib.hid (hro.sl.below o5.bl)
      have RA5 := Lib.hid (hre.below (er_belowS w.heap.size o5.bl))
      have K5 := Lib.hid ((K3.out.below b4 K3.out.lt).below o5.bl (K3.out.below b4 K3.out.lt).lt)
      have O5 := Lib.hid o5
      have HSZ := Lib.hid (size_sv2 hSl)
      clear hst hro hre hrl b4 hSl hSo o5 hy K3 B3 B4
      go_upto_region 4 with (first | (refine wpList_alloc_n rfl 42 rfl y O5.out.a0 _ (alloc_sv _) ?_) | (refine wpList_store_blk rfl 42 _ _ rfl y S rfl rfl O5.out.k0 HSZ.out O5.out.lT.1 O5.out.lT.2 ?_; rw [O5.out.eq]))
      go_wp2_with fail
      refine (HR.out w5 B5.out).mono ?_
      rintro e w6 ⟨v', vb, rows2, rfl, hst, hro, hre, b6⟩
      obtain ⟨T, rfl, hTl, hTo⟩ := st_row hst
      obtain ⟨pb, cb, rfl⟩ := hro.isSlice
      have hrl : rows2.length = l.length := by rw [hre.1, HLE.out]
      rw [hrl] at hro ⊢
      obtain ⟨z, hz⟩ : ∃ z, w6.heap.size = z := ⟨_, rfl⟩
      obtain ⟨w7, o7⟩ := oneV 46 w6 z hz T hTl hTo
      have b57 := b6.trans (o7.bl.mono b6.size)
      have B7 := Lib.hid (B5.out.trans (b57.mono B5.out.size))
      have TT7 := Lib.hid (hst.below (er_belowS w.heap.size o7.bl))
      have SB7 := Lib.hid (hro.sl.below o7.bl)
      have RB7 := Lib.hid (hre.below (er_belowS w.heap.size o7.bl))
      have ST7 := Lib.hid (ST5.out.below (er_belowS w.heap.size b57))
      have SA7 := Lib.hid (SA5.out.below b57)
      have RA7 := Lib.hid (RA5.out.below (er_belowS w.heap.size b57))
      have K7 := Lib.hid (K5.out.below b57 K5.out.lt)
      have KS7 := Lib.hid (O5.out.kT.below b57 O5.out.kT.lt)
      have KT7 := Lib.hid o7.kT
      have O7 := Lib.hid o7
      have HTZ := Lib.hid (size_st2 hTl)
      clear hst hro hre hrl b6 b57 hTl hTo o7 hz ST5 SA5 RA5 K5 O5 B5 HA HR
      go_upto_region 5 with (first | (refine wpList_alloc_n rfl 46 rfl z O7.out.a0 _ (alloc_st _) ?_) | (refine wpList_store_blk rfl 46 _ _ rfl z T rfl rfl O7.out.k0 HTZ.out O7.out.lT.1 O7.out.lT.2 ?_; rw [O7.out.eq]))
      clear O7
      have CE : Hid (∀ W, Below w7.heap.size w7 W → Calls Try.prog 15 #[.agg S.toArray, .agg T.toArray] W fun e w' => e = .returned (.bool true) ∧ Below W.heap.size W w') := Lib.hid fun W hC => vr_Equal s s (.agg S.toArray) (.agg T.toArray) true W (equalS_self s) ((ST7.out.below (er_belowS w.heap.size hC)).sub (er_sub w.heap.size W)) ((TT7.out.below (er_belowS w.heap.size hC)).sub (er_sub w.heap.size W)) (stS_C HSS.out) (stS_C HSS.out)
      have CL : Hid (∀ W, Below w7.heap.size w7 W → Calls Try.prog 17 #[.agg S.toArray] W fun e w' => ∃ vo, e = .returned vo ∧ OwnR w' W.heap.size 64 32 vo (rowsH (liveU (blksV s.vers))) ∧ Below W.heap.size W w') := Lib.hid fun W hC => K.live s (.agg S.toArray) W ((ST7.out.below (er_belowS w.heap.size hC)).sub (er_sub w.heap.size W)) HSS.out
      have CM : Hid (∀ W, Below w7.heap.size w7 W → Calls Try.prog 18 #[.agg T.toArray] W fun e w' => ∃ vo, e = .returned vo ∧ OwnR w' W.heap.size 64 32 vo (rowsH (liveU (blksV s.vers))) ∧ Below W.heap.size W w') := Lib.hid fun W hC => vr_Live s (.agg T.toArray) W ((TT7.out.below (er_belowS w.heap.size hC)).sub (er_sub w.heap.size W)) (fun i hi => ⟨(versS HSS.out i hi).1, (versS HSS.out i hi).2.1⟩) (Nat.le_trans HSS.out.1.vers.few (by decide))
      have CR : Hid (∀ W p13 p15 c13 c15, Sl W 32 (.slice p13 (liveU (blksV s.vers)).length c13) (rowsH (liveU (blksV s.vers))) → Sl W 32 (.slice p15 (liveU (blksV s.vers)).length c15) (rowsH (liveU (blksV s.vers))) → Calls Try.prog 16 #[.slice p13 (liveU (blksV s.vers)).length c13, .slice p15 (liveU (blksV s.vers)).length c15] W fun e w' => e = .returned (.bool true) ∧ Below W.heap.size W w') := Lib.hid fun W p13 p15 c13 c15 h1 h2 => r15_Same _ p13 p15 c13 c15 W (live_fewT HSS.out) (live_hashT HSS.out) h1 h2
      obtain ⟨LV, hLV⟩ : ∃ LV, liveU (blksV s.vers) = LV := ⟨_, rfl⟩
      rw [hLV] at CL CM CR
      refine region_free (Q' := _) mixed (by kernel_rfl) (tlF p pa pb l.length c ca cb O S T B0 y z) [] (fun _ => undef) rfl (Below w7.heap.size w7) ((Below.refl _ _).drew) (fun i v W => t5S l.length y z (.slice pa l.length ca) (.slice pb l.length cb) S T LV i v W) ?mono ?step ?hend
      case mono =>
        intro i v W W' hv hC hC' hb
        rcases i with _ | _ | _ | _ | _ | _ | _ | _ | _ | _ | _ | _ | _ | _ | _ | _ | _ | _ | _ | i
        all_goals try exact hv
        all_goals
          obtain ⟨p0, c0, e0, s0⟩ := hv
          exact ⟨p0, c0, e0, s0.below hb⟩
      case step =>
        intro u W i o ho hC hd
        have hr := Below.refl W.heap.size W
        rcases i with _ | _ | _ | _ | _ | _ | _ | _ | _ | _ | _ | _ | _ | _ | _ | _ | _ | _ | _ | i
        all_goals try (simp only [List.getElem?_cons_zero, List.getElem?_cons_succ, Option.some.injEq] at ho; subst ho)
        · unfold tlF
          go_wp2_with fail
          exact ⟨Value.slice pa l.length ca, by simp [upd], rfl, hC, hr⟩
        · have h0 : u 0 = .slice pa l.length ca := hd ⟨0, .data⟩ (by simp) rfl
          unfold tlF
          rw [h0]
          go_wp2_with fail
          exact ⟨.int .i64 (l.length : Int), by simp [upd, h0], rfl, hC, hr⟩
        · unfold tlF
          go_wp2_with fail
          exact ⟨Value.slice pb l.length cb, by simp [upd], rfl, hC, hr⟩
        · have h2 : u 2 = .slice pb l.length cb := hd ⟨2, .data⟩ (by simp) rfl
          unfold tlF
          rw [h2]
          go_wp2_with fail
          exact ⟨.int .i64 (l.length : Int), by simp [upd, h2], rfl, hC, hr⟩
        · have h1 : u 1 = .int .i64 (l.length : Int) := hd ⟨1, .data⟩ (by simp) rfl
          have h3 : u 3 = .int .i64 (l.length : Int) := hd ⟨3, .data⟩ (by simp) rfl
          unfold tlF
          rw [h1, h3]
          go_wp2_with fail
          exact ⟨.bool false, by simp [upd, h1, h3], rfl, hC, hr⟩
        · have h4 : u 4 = .bool false := hd ⟨4, .data⟩ (by simp) rfl
          unfold tlF
          rw [h4]
          go_wp2_with fail
          exact ⟨.bool false, by simp [upd, h4], rfl, hC, hr⟩
        · have h5 : u 5 = .bool false := hd ⟨5, .guard⟩ (by simp) rfl
          unfold tlF
          rw [h5]
          go_wp2_with (refine wpList_load_blkW rfl 42 _ rfl y rfl (KS7.out.below hC KS7.out.lt) Try.underlying42 rfl HSZ.out ?_)
          exact ⟨.agg S.toArray, by simp [upd, h5], rfl, hC, hr⟩
        · have h5 : u 5 = .bool false := hd ⟨5, .guard⟩ (by simp) rfl
          unfold tlF
          rw [h5]
          go_wp2_with (refine wpList_load_blkW rfl 46 _ rfl z rfl (KT7.out.below hC KT7.out.lt) Try.underlying46 rfl HTZ.out ?_)
          exact ⟨.agg T.toArray, by simp [upd, h5], rfl, hC, hr⟩
        · have h6 : u 6 = .agg S.toArray := hd ⟨6, .data⟩ (by simp) rfl
          have h7 : u 7 = .agg T.toArray := hd ⟨7, .data⟩ (by simp) rfl
          have h5 : u 5 = .bool false := hd ⟨5, .guard⟩ (by simp) rfl
          unfold tlF
          rw [h6, h7, h5]
          go_wp2_with ((with_reducible refine (CE.out _ hC).mono ?_); rintro e w5 ⟨rfl, hb5⟩)
          exact ⟨.bool true, by simp [upd, h6, h7, h5], rfl, hC.trans (hb5.mono hC.size), hb5⟩
        · have h8 : u 8 = .bool true := hd ⟨8, .data⟩ (by simp) rfl
          have h5 : u 5 = .bool false := hd ⟨5, .guard⟩ (by simp) rfl
          unfold tlF
          rw [h8, h5]
          go_wp2_with fail
          exact ⟨.bool false, by simp [upd, h8, h5], rfl, hC, hr⟩
        · have h5 : u 5 = .bool false := hd ⟨5, .data⟩ (by simp) rfl
          have h9 : u 9 = .bool false := hd ⟨9, .data⟩ (by simp) rfl
          unfold tlF
          rw [h5, h9]
          go_wp2_with fail
          exact ⟨.bool false, by simp [upd, h5, h9], rfl, hC, hr⟩
        · have h10 : u 10 = .bool false := hd ⟨10, .data⟩ (by simp) rfl
          unfold tlF
          rw [h10]
          go_wp2_with fail
          exact ⟨.bool false, by simp [upd, h10], rfl, hC, hr⟩
        · have h11 : u 11 = .bool false := hd ⟨11, .guard⟩ (by simp) rfl
          unfold tlF
          rw [h11]
          go_wp2_with (refine wpList_load_blkW rfl 42 _ rfl y rfl (KS7.out.below hC KS7.out.lt) Try.underlying42 rfl HSZ.out ?_)
          exact ⟨.agg S.toArray, by simp [upd, h11], rfl, hC, hr⟩
        · have h12 : u 12 = .agg S.toArray := hd ⟨12, .data⟩ (by simp) rfl
          have h11 : u 11 = .bool false := hd ⟨11, .guard⟩ (by simp) rfl
          unfold tlF
          rw [h12, h11]
          go_wp2_with ((with_reducible refine (CL.out _ hC).mono ?_); rintro e w5 ⟨vo, rfl, hO, hb5⟩)
          exact ⟨vo, by simp [upd, h12, h11], lv_own hO, hC.trans (hb5.mono hC.size), hb5⟩
        · have h11 : u 11 = .bool false := hd ⟨11, .guard⟩ (by simp) rfl
          unfold tlF
          rw [h11]
          go_wp2_with (refine wpList_load_blkW rfl 46 _ rfl z rfl (KT7.out.below hC KT7.out.lt) Try.underlying46 rfl HTZ.out ?_)
          exact ⟨.agg T.toArray, by simp [upd, h11], rfl, hC, hr⟩
        · have h14 : u 14 = .agg T.toArray := hd ⟨14, .data⟩ (by simp) rfl
          have h11 : u 11 = .bool false := hd ⟨11, .guard⟩ (by simp) rfl
          unfold tlF
          rw [h14, h11]
          go_wp2_with ((with_reducible refine (CM.out _ hC).mono ?_); rintro e w5 ⟨vo, rfl, hO, hb5⟩)
          exact ⟨vo, by simp [upd, h14, h11], lv_own hO, hC.trans (hb5.mono hC.size), hb5⟩
        · obtain ⟨p13, c13, h13, s13⟩ := hd ⟨13, .data⟩ (by simp) rfl
          obtain ⟨p15, c15, h15, s15⟩ := hd ⟨15, .data⟩ (by simp) rfl
          rw [h13] at s13
          rw [h15] at s15
          have h11 : u 11 = .bool false := hd ⟨11, .guard⟩ (by simp) rfl
          unfold tlF
          rw [h13, h15, h11]
          go_wp2_with ((with_reducible refine (CR.out _ _ _ _ _ s13 s15).mono ?_); rintro e w5 ⟨rfl, hb5⟩)
          exact ⟨.bool true, by simp [upd, h13, h15, h11], rfl, hC.trans (hb5.mono hC.size), hb5⟩
        · have h16 : u 16 = .bool true := hd ⟨16, .data⟩ (by simp) rfl
          have h11 : u 11 = .bool false := hd ⟨11, .guard⟩ (by simp) rfl
          unfold tlF
          rw [h16, h11]
          go_wp2_with fail
          exact ⟨.bool false, by simp [upd, h16, h11], rfl, hC, hr⟩
        · have h11 : u 11 = .bool false := hd ⟨11, .data⟩ (by simp) rfl
          have h17 : u 17 = .bool false := hd ⟨17, .data⟩ (by simp) rfl
          unfold tlF
          rw [h11, h17]
          go_wp2_with fail
          exact ⟨.bool false, by simp [upd, h11, h17], rfl, hC, hr⟩
        · simp at ho
      case hend =>
        intro u w8 hC hv
        have h18 : u 18 = .bool false := hv 18 (by decide)
        have C8 : Hid (Below w7.heap.size w7 w8) := Lib.hid hC
        unfold tlF
        rw [h18]
        clear hv hC h18 CE CL CM CR hLV
        go_wp2_with fail
        go_loopw [9] (fun i wr => ∃ j : Nat, j ≤ l.length ∧ i = .int .i64 (j : Int) ∧ Below w7.heap.size w7 wr) (fun i _ => l.length - (intOf i).toNat)
        case atStart => exact ⟨0, Nat.zero_le _, rfl, C8.out⟩
        case round =>
          obtain ⟨j, hj, rfl, gq⟩ := hrel
          have GQ := Lib.hid gq
          have GB := Lib.hid (B7.out.trans (gq.mono B7.out.size))
          by_cases hlt : j < l.length
          · have hj2 : j < L2.length := by rw [HLE.out]; exact hlt
            have h02 : 0 < L2.length := by omega
            have HR1 := Lib.hid (HRS.out _ (getD_memR hj2))
            have HR0 := Lib.hid (HRS.out _ (getD_memR h02))
            obtain ⟨r1, e1, t1⟩ := RA7.out.2 j hj2
            obtain ⟨r0, e0, t0⟩ := RA7.out.2 0 h02
            obtain ⟨x1, f1, u1⟩ := RB7.out.2 j hj2
            obtain ⟨a1, rfl, _⟩ := SA7.out.row e1
            obtain ⟨b1, rfl, _⟩ := SB7.out.row f1
            have N1 : Hid (∀ wx, NewBut wr wx → ∀ i v, r1[i]? = some v → wx.cell? ((a1.add (j * 6)).add i) = some v) := Lib.hid fun wx hx => by
              obtain ⟨a', e, hc⟩ := (SA7.out.below (GQ.out.trans (Below.mono hx GQ.out.size))).row e1
              cases e
              exact hc
            have N0 : Hid (∀ wx, NewBut wr wx → ∀ i v, r0[i]? = some v → wx.cell? ((a1.add (0 * 6)).add i) = some v) := Lib.hid fun wx hx => by
              obtain ⟨a', e, hc⟩ := (SA7.out.below (GQ.out.trans (Below.mono hx GQ.out.size))).row e0
              cases e
              exact hc
            have N2 : Hid (∀ wx, NewBut wr wx → ∀ i v, x1[i]? = some v → wx.cell? ((b1.add (j * 6)).add i) = some v) := Lib.hid fun wx hx => by
              obtain ⟨a', e, hc⟩ := (SB7.out.below (GQ.out.trans (Below.mono hx GQ.out.size))).row f1
              cases e
              exact hc
            have T1 := Lib.hid (fun (wx : World) (hx : NewBut wr wx) => (t1.below (er_belowS w.heap.size (GQ.out.trans (Below.mono hx GQ.out.size)))).sub (er_sub w.heap.size wx))
            have T0 := Lib.hid (fun (wx : World) (hx : NewBut wr wx) => (t0.below (er_belowS w.heap.size (GQ.out.trans (Below.mono hx GQ.out.size)))).sub (er_sub w.heap.size wx))
            have T2 := Lib.hid (fun (wx : World) (hx : NewBut wr wx) => (u1.below (er_belowS w.heap.size (GQ.out.trans (Below.mono hx GQ.out.size)))).sub (er_sub w.heap.size wx))
            have hl1 : r1.length = 6 := t1.len
            have hl0 : r0.length = 6 := t0.len
            have hl2 : x1.length = 6 := u1.len
            obtain ⟨β, hβ⟩ : ∃ β, sameR (L2.getD j (wrongU noV 0)) (L2.getD 0 (wrongU noV 0)) = β := ⟨_, rfl⟩
            have CA : Hid (∀ wx, NewBut wr wx → Calls Try.prog 19 #[.agg r1.toArray, .agg x1.toArray] wx fun x w' => x = .returned (.bool true) ∧ NewBut wr w') := Lib.hid fun wx hx => (vr_Same _ _ r1 x1 true wx (sameR_self _) (T1.out wx hx) (T2.out wx hx) (repS_ok HR1.out) (repS_ok HR1.out)).mono fun x w' ⟨q1, q2⟩ => ⟨q1, hx.trans (q2.mono hx.size)⟩
            have CB : Hid (∀ wx, NewBut wr wx → Calls Try.prog 20 #[.agg r1.toArray, .agg r0.toArray] wx fun x w' => x = .returned (.bool β) ∧ NewBut wr w') := Lib.hid fun wx hx => (K.same _ _ r1 r0 β wx hβ (T1.out wx hx) (T0.out wx hx) HR1.out HR0.out).mono fun x w' ⟨q1, q2⟩ => ⟨q1, hx.trans (q2.mono hx.size)⟩
            have CC : Hid (∀ wx, NewBut wr wx → Calls Try.prog 19 #[.agg r1.toArray, .agg r0.toArray] wx fun x w' => x = .returned (.bool β) ∧ NewBut wr w') := Lib.hid fun wx hx => (vr_Same _ _ r1 r0 β wx hβ (T1.out wx hx) (T0.out wx hx) (repS_ok HR1.out) (repS_ok HR0.out)).mono fun x w' ⟨q1, q2⟩ => ⟨q1, hx.trans (q2.mono hx.size)⟩
            have d1 : (j : Int) < (l.length : Int) := by omega
            have d2 : 0 < l.length := by omega
            have d3 : (0 : Int) < (l.length : Int) := by omega
            have d4 : (l.length : Int) ≤ 60 := by have := H60.out; omega
            have HLT := Lib.hid hlt
            clear gq hlt hj hj2 h02 e1 e0 f1 t1 t0 u1 T1 T0 T2 HR1 HR0 hβ
            go_wp2_with fail
            cases β
            all_goals
              refine region_quiet_tail (C := NewBut wr) 28 mixed (by kernel_rfl) (show Below _ _ _ from (Below.refl _ _).drew) ?_
              simp only [List.take_succ_cons, List.take_zero, List.drop_succ_cons, List.drop_zero]
              repeat (first | (refine wpQuiet_load_addr rfl 39 _ rfl (a1.add (j * 6)) rfl r1 N1.out Try.underlying39 rfl (by rw [size_rep, hl1]) ?_) | (refine wpQuiet_load_addr rfl 39 _ rfl (b1.add (j * 6)) rfl x1 N2.out Try.underlying39 rfl (by rw [size_rep, hl2]) ?_) | (refine wpQuiet_load_addr rfl 39 _ rfl (a1.add (0 * 6)) rfl r0 N0.out Try.underlying39 rfl (by rw [size_rep, hl0]) ?_) | go_big_quiet_step (fail) | (refine wpQuiet_step (fun K' hK' => ?_); go_simp; first | (refine hK' _ ?_; clear hK' K') | (refine ⟨_, fun _ _ => rfl, hK' _ ?_⟩; clear hK' K') | ((with_reducible refine ⟨_, fun wx hx => CA.out wx hx, hK' _ ?_⟩); clear hK' K') | ((with_reducible refine ⟨_, fun wx hx => CB.out wx hx, hK' _ ?_⟩); clear hK' K') | ((with_reducible refine ⟨_, fun wx hx => CC.out wx hx, hK' _ ?_⟩); clear hK' K')))
              refine wpQuiet_nil ?_
              intro wz hz
              have GZ := Lib.hid (GQ.out.trans (Below.mono hz GQ.out.size))
              clear hz
              go_wp2_with fail
              go_roundw
              case rel => exact ⟨j + 1, by have := HLT.out; omega, by go_num, GZ.out⟩
              case measure => (have := HLT.out; simp [intOf]; omega)
          · obtain rfl : j = l.length := by omega
            have STq := Lib.hid (ST7.out.below (er_belowS w.heap.size gq))
            have TTq := Lib.hid (TT7.out.below (er_belowS w.heap.size gq))
            have KSq := Lib.hid (KS7.out.below gq KS7.out.lt)
            have KTq := Lib.hid (KT7.out.below gq KT7.out.lt)
            have KBq := Lib.hid (K7.out.below gq K7.out.lt)
            have HOq := Lib.hid (fun (wx : World) (hb : Below w.heap.size w wx) => HO.out.below (below_er hb))
            clear gq hlt hj ST7 TT7 KS7 KT7 K7 HO SA7 SB7 RA7 RB7
            go_wp2_with (first | (refine wpList_load_blk rfl 42 _ rfl y rfl KSq.out Try.underlying42 rfl HSZ.out ?_) | (refine wpList_load_blk rfl 30 _ rfl B0 rfl KBq.out Try.underlying30 rfl (by rw [size_op, HOL.out]) ?_))
            refine (K.do_ s (.agg S.toArray) (.agg O.toArray) kind id a wr w.heap.size GB.out.size STq.out (HOq.out wr GB.out) HSS.out HID.out HVA.out).mono ?_
            rintro e w10 ⟨v', Y, rfl, hst, hry, hb10⟩
            obtain ⟨U, rfl, hUl, hUo⟩ := st_row hst
            obtain ⟨y3, hy3⟩ : ∃ y, w10.heap.size = y := ⟨_, rfl⟩
            obtain ⟨w11, o11⟩ := twoV 42 w10 y3 hy3 U Y hUl hUo (hry.len) (rep_one hry).1
            have b11 := hb10.trans (o11.bl.mono hb10.size)
            have B11 := Lib.hid (GB.out.trans (b11.mono GB.out.size))
            have U11 := Lib.hid (hst.below (er_belowS w.heap.size o11.bl))
            have Y11 := Lib.hid (hry.below (er_belowS w.heap.size o11.bl))
            have T11 := Lib.hid (TTq.out.below (er_belowS w.heap.size b11))
            have KT11 := Lib.hid (KTq.out.below b11 KTq.out.lt)
            have KB11 := Lib.hid (KBq.out.below b11 KBq.out.lt)
            have KU11 := Lib.hid o11.kT
            have KY11 := Lib.hid o11.kX
            have O11 := Lib.hid o11
            have HUZ := Lib.hid (size_sv2 hUl)
            clear hst hry hb10 b11 hUl hUo o11 hy3 TTq KTq KBq STq KSq
            go_wp2_with (first | (refine wpList_alloc_n rfl 42 rfl y3 O11.out.a0 _ (alloc_sv _) ?_) | (refine wpList_alloc_n rfl 39 rfl (y3 + 1) O11.out.a1 _ (alloc_rv _) ?_) | (refine wpList_store_blk rfl 42 _ _ rfl y3 U rfl rfl O11.out.k0 HUZ.out O11.out.lT.1 O11.out.lT.2 ?_) | (refine wpList_store_blk rfl 39 _ _ rfl (y3 + 1) Y rfl rfl O11.out.k1 O11.out.lX.1 O11.out.lX.2.1 O11.out.lX.2.2 ?_; rw [O11.out.eq]) | (refine wpList_load_blk rfl 46 _ rfl z rfl KT11.out Try.underlying46 rfl HTZ.out ?_) | (refine wpList_load_blk rfl 30 _ rfl B0 rfl KB11.out Try.underlying30 rfl (by rw [size_op, HOL.out]) ?_))
            refine (vr_Do s (.agg T.toArray) (.agg O.toArray) kind id a w11 w.heap.size B11.out.size T11.out (HOq.out w11 B11.out) (Nat.le_trans HSS.out.1.vers.few (by decide)) HID.out HVA.out.1 HVA.out.2).mono ?_
            rintro e w12 ⟨v', Z, rfl, hst, hry, hb12⟩
            obtain ⟨X, rfl, hXl, hXo⟩ := st_row hst
            obtain ⟨y4, hy4⟩ : ∃ y, w12.heap.size = y := ⟨_, rfl⟩
            obtain ⟨w13, o13⟩ := twoV 46 w12 y4 hy4 X Z hXl hXo (hry.len) (rep_one hry).1
            have b13 := hb12.trans (o13.bl.mono hb12.size)
            have B13 := Lib.hid (B11.out.trans (b13.mono B11.out.size))
            have X13 := Lib.hid (hst.below (er_belowS w.heap.size o13.bl))
            have Z13 := Lib.hid (hry.below (er_belowS w.heap.size o13.bl))
            have U13 := Lib.hid (U11.out.below (er_belowS w.heap.size b13))
            have Y13 := Lib.hid (Y11.out.below (er_belowS w.heap.size b13))
            have KU13 := Lib.hid (KU11.out.below b13 KU11.out.lt)
            have KY13 := Lib.hid (KY11.out.below b13 KY11.out.lt)
            have KX13 := Lib.hid o13.kT
            have KZ13 := Lib.hid o13.kX
            have O13 := Lib.hid o13
            have HXZ := Lib.hid (size_st2 hXl)
            have HYZ := Lib.hid O11.out.lX.1
            have HDS := Lib.hid (doS_C HSS.out kind id HVA.out)
            have HDR := Lib.hid (repS_ok (do_S HSS.out.1.vers HSS.out.2.1 kind id HVA.out).2)
            clear hst hry hb12 b13 hXl hXo o13 hy4 O11 T11 KT11 KB11 U11 Y11 KU11 KY11
            generalize (doR s.vers kind id a).1 = sv at *
            generalize (doR s.vers kind id a).2 = rp at *
            go_wp2_with (first | (refine wpList_alloc_n rfl 46 rfl y4 O13.out.a0 _ (alloc_st _) ?_) | (refine wpList_alloc_n rfl 39 rfl (y4 + 1) O13.out.a1 _ (alloc_rv _) ?_) | (refine wpList_store_blk rfl 46 _ _ rfl y4 X rfl rfl O13.out.k0 HXZ.out O13.out.lT.1 O13.out.lT.2 ?_) | (refine wpList_store_blk rfl 39 _ _ rfl (y4 + 1) Z rfl rfl O13.out.k1 O13.out.lX.1 O13.out.lX.2.1 O13.out.lX.2.2 ?_; rw [O13.out.eq]) | (refine wpList_load_blk rfl 39 _ rfl (y3 + 1) rfl KY13.out Try.underlying39 rfl HYZ.out ?_) | (refine wpList_load_blk rfl 39 _ rfl (y4 + 1) rfl KZ13.out Try.underlying39 rfl O13.out.lX.1 ?_))
            refine (vr_Same rp rp Y Z true w13 (sameR_self _) (Y13.out.sub (er_sub w.heap.size _)) (Z13.out.sub (er_sub w.heap.size _)) HDR.out HDR.out).mono ?_
            rintro e w14 ⟨rfl, b14⟩
            have B14 := Lib.hid (B13.out.trans (b14.mono B13.out.size))
            have U14 := Lib.hid (U13.out.below (er_belowS w.heap.size b14))
            have X14 := Lib.hid (X13.out.below (er_belowS w.heap.size b14))
            have KU14 := Lib.hid (KU13.out.below b14 KU13.out.lt)
            have KX14 := Lib.hid (KX13.out.below b14 KX13.out.lt)
            clear b14
            go_wp2_with (first | (go_skip) | (refine wpList_load_blkW rfl 42 _ rfl y3 rfl KU14.out Try.underlying42 rfl HUZ.out ?_) | (refine wpList_load_blkW rfl 46 _ rfl y4 rfl KX14.out Try.underlying46 rfl HXZ.out ?_))
            refine (vr_Equal _ _ (.agg U.toArray) (.agg X.toArray) true w14 (equalS_self _) (U14.out.sub (er_sub w.heap.size _)) (X14.out.sub (er_sub w.heap.size _)) HDS.out HDS.out).mono ?_
            rintro e w15 ⟨rfl, b15⟩
            have B15 := Lib.hid (B14.out.trans (b15.mono B14.out.size))
            clear b15
            go_wp2
            go_ret
            exact ⟨rfl, B15.out⟩
theorem walk (l : List (ReqU RawV)) (p : Option Addr) (c : Nat) (kind : Int) (id : Nat) (a : RawV) (v : Value) (hin : (∀ r ∈ l, ReqIn r) ∧ l.length ≤ maxLen ∧ (Value.slice p l.length c = .slice none 0 0 ∨ ((∃ a, p = some a) ∧ l.length ≤ c))) (hio : OpIn kind id a) (w : World) (hq : ReqsV w (.slice p l.length c) l) (ho : OpTold w v kind id a) :
    Calls Try.prog 3 #[.slice p l.length c, v] w fun e w' => e = .returned (.bool true) ∧ Below w.heap.size w w' := walkK theVault l p c kind id a v hin.1 hio w hq ho
set_option maxRecDepth 100000 in
theorem lifted (os : Os) (started : os.Started) (H : Type) (enc : TypeId × Value → H) :
    ReturnsInHanded {} Try.checked os 3 .any (Rows.vaultTellsSpec.pre6 enc Try.prog Try.f3 Rows.vaultTellsRow.domain false) (Rows.vaultTellsSpec.post enc Try.prog Try.f3 false true false false) := by
  refine returnsInHanded_of_change (C := Try.checked) own started (by kernel_rfl) Try.func3
    (ChangeSpec.witness6 (enc := enc) (C := Try.checked) false ⟨#[], #[.slice none 0 0, .agg #[.int .i64 0, .int .u32 0, .int .u32 0, .slice none 0 0, .slice none 0 0, .slice none 0 0]], []⟩ 8 (by kernel_rfl) (by kernel_rfl) (by kernel_rfl) (by kernel_rfl)) ?_
  intro W base args ds gs before hval0 hW hcnd _
  have hval : ∀ (j : Nat) t v, Try.f3.params[j]? = some t → args[j]? = some v → Value.okWide Try.prog W .any base t v := hval0
  have hW' := hW
  obtain ⟨p, q, hA0, hV, rfl, hfz, hnd⟩ := hW
  have hA : DataW.TrodAll enc Try.prog W 0 (fun _ => true) true Try.f3.params.toList args.toList ds p := hA0
  rw [Try.params3] at hA hval
  obtain ⟨v0, vs0, d0, ds0, p0, q0, hargs, rfl, rfl, h0, r0⟩ := trodAll_cons hA
  obtain ⟨v1, vs1, d1, ds1, p1, q1, rfl, rfl, rfl, h1, r1⟩ := trodAll_cons r0
  obtain ⟨rfl, rfl, rfl⟩ := trodAll_nil r1
  obtain rfl : args = #[v0, v1] := by cases args; simp_all
  obtain ⟨rfl, rfl⟩ := trodVars_none hV
  have k0 := h0
  have lt0 : ∀ x ∈ p0, x.block < W.heap.size := by obtain ⟨m, hm⟩ := k0; exact DataW.trod_lt m _ _ _ hm
  obtain ⟨a0, m0, c0, rfl⟩ := Go.WideShapes.okWide_slice Try.underlying22 (hval 0 22 v0 rfl rfl)
  obtain ⟨l0, rfl, S0, n0⟩ := open_reqs h0
  have k1 := h1
  have lt1 : ∀ x ∈ p1, x.block < W.heap.size := by obtain ⟨m, hm⟩ := k1; exact DataW.trod_lt m _ _ _ hm
  obtain ⟨l1, i1, a1, S1, n1⟩ := open_op (hval 1 30 v1 rfl rfl) h1
  clear hA0 hval0
  simp only [List.append_nil] at hW'
  refine (walk l0 a0 c0 l1 i1 a1 v1 n0 n1 W S0 S1).mono fun e W' ⟨he, bel⟩ => ?_
  subst he
  exact ⟨_, rfl, _, _, _, [], _, [], hW', trodAll_mk1 (shut_bool Try.underlying4 _), (trodAll_cons_mk (Below.trod laidOut (by kernel_rfl) (of_decide_eq_true (by kernel_rfl)) k0 bel lt0) (trodAll_cons_mk (Below.trod laidOut (by kernel_rfl) (of_decide_eq_true (by kernel_rfl)) k1 bel lt1) trodAll_mk0)), rfl, bel.frame _, fun h => by cases h⟩

theorem over : Rows.vaultTellsRow.holds Try.pinned (OpenSpec.ofChange Rows.vaultTellsSpec) :=
  OpenClaim.holds_of_wide 3 Try.f3 rfl rfl rfl rfl rfl rfl rfl ⟨rfl, rfl, rfl, rfl, rfl⟩ rfl rfl rfl rfl rfl (by kernel_rfl) Try.func3 (by kernel_rfl)
    (of_decide_eq_true (by kernel_rfl)) (by unfold Func.isWrapper; first | (rw [if_pos (by decide +kernel)]; kernel_rfl) | (rw [if_neg (by decide +kernel)]; exact ⟨rfl, rfl⟩))
    (fun os started H enc _ => lifted os started H enc)

theorem proved : Rows.VaultTellsSaid :=
  over
#print axioms proved
end Go.Proofs.Ytogonbgelaehhaa.vaultTells
