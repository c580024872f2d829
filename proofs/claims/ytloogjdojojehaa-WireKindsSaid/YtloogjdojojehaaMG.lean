/- Walk of the reference's SameRequest (stage 18). -/
import Derived.Test.YtloogjdojojehaaMA
import Derived.Test.YtloogjdojojehaaG1
import Derived.Test.YtloogjdojojehaaMD
import Derived.Test.YtloogjdojojehaaHP1
import Derived.Test.YtloogjdojojehaaDByt
namespace Go.Proofs.Ytloogjdojojehaa
open Go.RowKit
set_option linter.unusedVariables false

theorem sameQ_no {a b : ReqU RawV} {r : Bool} (hr : sameQ a b = r) (h : a.client ≠ b.client ∨ a.seq ≠ b.seq ∨ a.kind ≠ b.kind ∨ a.id ≠ b.id) : r = false := by
  rw [← hr]
  unfold sameQ
  rcases h with h | h | h | h <;> simp [h]
theorem sameQ_yes {a b : ReqU RawV} {r : Bool} (hr : sameQ a b = r) (h1 : a.client = b.client) (h2 : a.seq = b.seq) (h3 : a.kind = b.kind) (h4 : a.id = b.id) : sameV a.ver b.ver = r := by
  rw [← hr]
  unfold sameQ
  simp [h1, h2, h3, h4]
set_option maxRecDepth 100000 in
set_option maxHeartbeats 2000000 in
theorem mr_SameQ (a b : ReqU RawV) (va vb : Value) (r : Bool) (w : World) (hr : sameQ a b = r) (hA : ReqTold w va a) (hB : ReqTold w vb b) (ha : VerS a.ver) (hb : VerS b.ver) :
    Calls Try.prog 11 #[va, vb] w fun e w' => e = .returned (.bool r) ∧ Below w.heap.size w w' := by
  obtain ⟨R, rfl, hRl, h0, h1, h2, h3, hV⟩ := req_cells hA
  obtain ⟨Q, rfl, hQl, g0, g1, g2, g3, gV⟩ := req_cells hB
  obtain ⟨B, hBB⟩ : ∃ B, w.heap.size = B := ⟨_, rfl⟩
  have k0 := (Blk.newAt w B hBB 40 (c := R.toArray) R rfl).alloc (.cells Q.toArray 40)
  have k1 := Blk.newAt (w.alloc (.cells R.toArray 40)) (B + 1) (by simp [hBB]) 40 (c := Q.toArray) Q rfl
  have kb := ((Below.refl w.heap.size w).alloc (Nat.le_refl _) (.cells R.toArray 40)).alloc (by simp) (.cells Q.toArray 40)
  have KB := Lib.hid kb
  have ca0 := k0.cellOf h0
  have ca1 := k0.cellOf h1
  have ca2 := k0.cellOf h2
  have ca3 := k0.cellOf h3
  have cb0 := k1.cellOf g0
  have cb1 := k1.cellOf g1
  have cb2 := k1.cellOf g2
  have cb3 := k1.cellOf g3
  have HRD : Hid ((R.drop 4).length = 4 ∧ (Q.drop 4).length = 4) := Lib.hid ⟨by rw [List.length_drop, hRl], by rw [List.length_drop, hQl]⟩
  have HVA : Hid (∀ i x, (R.drop 4)[i]? = some x → ((w.alloc (.cells R.toArray 40)).alloc (.cells Q.toArray 40)).cell? ((⟨B, 4, none⟩ : Addr).add i) = some x) := Lib.hid fun i x hx => by
    rw [Addr.add_mid, k0.cell]
    rw [List.getElem?_drop] at hx
    exact hx
  have HVB : Hid (∀ i x, (Q.drop 4)[i]? = some x → ((w.alloc (.cells R.toArray 40)).alloc (.cells Q.toArray 40)).cell? ((⟨B + 1, 4, none⟩ : Addr).add i) = some x) := Lib.hid fun i x hx => by
    rw [Addr.add_mid, k1.cell]
    rw [List.getElem?_drop] at hx
    exact hx
  have HSM := Lib.hid (fun (rr : Bool) (h : sameV a.ver b.ver = rr) => hr_Same a.ver b.ver (.agg (R.drop 4).toArray) (.agg (Q.drop 4).toArray) rr _ h (hV.below kb) (gV.below kb) ha.1 hb.1 (Nat.le_trans ha.2.1 (by decide)) (Nat.le_trans ha.2.2.1 (by decide)) (Nat.le_trans ha.2.2.2 (by decide)))
  have HN := Lib.hid (fun h => sameQ_no hr h)
  have HY := Lib.hid (fun h1 h2 h3 h4 => sameQ_yes hr h1 h2 h3 h4)
  clear k0 k1 kb h0 h1 h2 h3 g0 g1 g2 g3 hV gV hA hB ha hb hr hRl hQl
  by_cases t0 : a.client = b.client
  case neg =>
    obtain rfl := HN.out (.inl t0)
    have e : (a.client == b.client) = false := by simpa using t0
    clear t0
    go_enter Try.func11, Try.ntmps11
    go_wp2_with (first | (go_skip) | fail)
    go_ret
    exact ⟨rfl, by have h := KB.out; rw [hBB] at h; exact h⟩
  have HT0 := Lib.hid t0
  rw [t0] at ca0
  clear t0
  by_cases t1 : a.seq = b.seq
  case neg =>
    obtain rfl := HN.out (.inr (.inl t1))
    have e : (((a.seq : Nat) : Int) == (b.seq : Int)) = false := by simp; omega
    clear t1
    go_enter Try.func11, Try.ntmps11
    go_wp2_with (first | (go_skip) | fail)
    go_ret
    exact ⟨rfl, by have h := KB.out; rw [hBB] at h; exact h⟩
  have HT1 := Lib.hid t1
  rw [t1] at ca1
  clear t1
  by_cases t2 : a.kind = b.kind
  case neg =>
    obtain rfl := HN.out (.inr (.inr (.inl t2)))
    have e : (a.kind == b.kind) = false := by simpa using t2
    clear t2
    go_enter Try.func11, Try.ntmps11
    go_wp2_with (first | (go_skip) | fail)
    go_ret
    exact ⟨rfl, by have h := KB.out; rw [hBB] at h; exact h⟩
  have HT2 := Lib.hid t2
  rw [t2] at ca2
  clear t2
  by_cases t3 : a.id = b.id
  case neg =>
    obtain rfl := HN.out (.inr (.inr (.inr t3)))
    have e : (((a.id : Nat) : Int) == (b.id : Int)) = false := by simp; omega
    clear t3
    go_enter Try.func11, Try.ntmps11
    go_wp2_with (first | (go_skip) | fail)
    go_ret
    exact ⟨rfl, by have h := KB.out; rw [hBB] at h; exact h⟩
  have HT3 := Lib.hid t3
  rw [t3] at ca3
  clear t3
  have HS := Lib.hid (HSM.out r (HY.out HT0.out HT1.out HT2.out HT3.out))
  go_enter Try.func11, Try.ntmps11
  go_wp2_with (first | (go_skip) | (refine wpList_load_addrV rfl 30 _ rfl ⟨B, 4, none⟩ rfl (R.drop 4) HVA.out Try.underlying30 rfl (by rw [size_ver, HRD.out.1]) ?_) | (refine wpList_load_addrV rfl 30 _ rfl ⟨B + 1, 4, none⟩ rfl (Q.drop 4) HVB.out Try.underlying30 rfl (by rw [size_ver, HRD.out.2]) ?_))
  (with_reducible refine HS.out.mono ?_)
  rintro e w2 ⟨rfl, b2⟩
  have B2 := Lib.hid (KB.out.trans (b2.mono KB.out.size))
  clear b2
  go_wp2
  go_ret
  exact ⟨rfl, by have h := B2.out; first | exact h | (rw [hBB] at h; exact h)⟩
end Go.Proofs.Ytloogjdojojehaa
namespace Go.Proofs.Ytloogjdojojehaa
open Go.RowKit
set_option linter.unusedVariables false

def sameLog (a b : List (ReqU RawV)) : Bool := decide (a.length = b.length) && (List.range a.length).all fun i => sameQ (a.getD i noQ) (b.getD i noQ)
theorem sameLog_len {a b : List (ReqU RawV)} {r : Bool} (hr : sameLog a b = r) (h : a.length ≠ b.length) : r = false := by
  rw [← hr]
  unfold sameLog
  rw [decide_eq_false h]
  rfl
theorem sameLog_at {a b : List (ReqU RawV)} {r : Bool} (hr : sameLog a b = r) {i : Nat} (hi : i < a.length) (h : sameQ (a.getD i noQ) (b.getD i noQ) = false) : r = false := by
  rw [← hr]
  unfold sameLog
  rw [Bool.and_eq_false_iff]
  right
  rw [List.all_eq_false]
  exact ⟨i, List.mem_range.2 hi, by rw [h]; decide⟩
theorem sameLog_all {a b : List (ReqU RawV)} {r : Bool} (hr : sameLog a b = r) (hl : a.length = b.length) (h : ∀ i, i < a.length → sameQ (a.getD i noQ) (b.getD i noQ) = true) : r = true := by
  rw [← hr]
  unfold sameLog
  rw [decide_eq_true hl, Bool.true_and, List.all_eq_true]
  exact fun i hi => h i (List.mem_range.1 hi)
theorem sameLog_self (a : List (ReqU RawV)) : sameLog a a = true := sameLog_all rfl rfl fun i _ => sameQ_self _
set_option maxRecDepth 100000 in
set_option maxHeartbeats 2000000 in
theorem mr_SameLog (a b : List (ReqU RawV)) (p q : Option Addr) (c d : Nat) (r : Bool) (w : World) (hr : sameLog a b = r) (hl : a.length ≤ 1000000) (hl2 : b.length ≤ 1000000) (hA : ReqsV w (.slice p a.length c) a) (hB : ReqsV w (.slice q b.length d) b) (ha : ∀ i, i < a.length → VerS (a.getD i noQ).ver) (hb : ∀ i, i < b.length → VerS (b.getD i noQ).ver) :
    Calls Try.prog 29 #[.slice p a.length c, .slice q b.length d] w fun e w' => e = .returned (.bool r) ∧ Below w.heap.size w w' := by
  have HA := Lib.hid hA
  have HB := Lib.hid hB
  have HVA := Lib.hid ha
  have HVB := Lib.hid hb
  have HR := Lib.hid hr
  clear hA hB ha hb hr
  by_cases hn : a.length = b.length
  case neg =>
    obtain rfl := sameLog_len HR.out hn
    have e : ((a.length : Int) != (b.length : Int)) = true := by simp; omega
    generalize a.length = n at *
    generalize b.length = m at *
    clear hn
    go_enter Try.func29, Try.ntmps29
    go_wp2_with (first | (go_skip) | fail)
    go_ret
    exact ⟨rfl, Below.refl _ _⟩
  have HN := Lib.hid hn
  rw [← hn] at HB ⊢
  clear hn hl2
  go_enter Try.func29, Try.ntmps29
  go_wp2
  go_loopw [5] (fun i wr => ∃ j : Nat, j ≤ a.length ∧ i = .int .i64 (j : Int) ∧ (∀ k, k < j → sameQ (a.getD k noQ) (b.getD k noQ) = true) ∧ Below w.heap.size w wr) (fun i _ => a.length - (intOf i).toNat)
  case atStart => exact ⟨0, Nat.zero_le _, rfl, fun k hk => absurd hk (Nat.not_lt_zero k), Below.refl _ _⟩
  case round =>
    obtain ⟨j, hj, rfl, hall, gb⟩ := hrel
    have GB := Lib.hid gb
    have HAL := Lib.hid hall
    clear hall
    by_cases hlt : j < a.length
    · obtain ⟨a1, R0, rfl, m1, t1, l1, s1⟩ := (HA.out.below gb).at hlt
      obtain ⟨b1, Q0, rfl, m2, t2, l2, s2⟩ := (HB.out.below gb).at (i := j) (by rw [← HN.out]; exact hlt)
      have N1 : Hid (∃ R : List Value, R.length = 8 ∧ ∀ wx, NewBut wr wx → ReqTold wx (.agg R.toArray) (a.getD j noQ) ∧ ∀ i x, R[i]? = some x → wx.cell? ((a1.add (j * 8)).add i) = some x) := Lib.hid (by
        obtain ⟨a', R', e, hlt', q1, q2, q3⟩ := (HA.out.below gb).at hlt
        cases e
        exact ⟨R', q2, fun wx hx => ⟨q1.below hx, fun i x hi => by rw [Below.cell hx (by rw [add_block, add_block]; exact hlt')]; exact q3 i x hi⟩⟩)
      have N2 : Hid (∃ Q : List Value, Q.length = 8 ∧ ∀ wx, NewBut wr wx → ReqTold wx (.agg Q.toArray) (b.getD j noQ) ∧ ∀ i x, Q[i]? = some x → wx.cell? ((b1.add (j * 8)).add i) = some x) := Lib.hid (by
        obtain ⟨a', R', e, hlt', q1, q2, q3⟩ := (HB.out.below gb).at (i := j) (by rw [← HN.out]; exact hlt)
        cases e
        exact ⟨R', q2, fun wx hx => ⟨q1.below hx, fun i x hi => by rw [Below.cell hx (by rw [add_block, add_block]; exact hlt')]; exact q3 i x hi⟩⟩)
      clear m1 t1 l1 s1 m2 t2 l2 s2 R0 Q0
      obtain ⟨R, hl0, hR⟩ := N1.out
      obtain ⟨Q, hl1, hQ⟩ := N2.out
      have CR := Lib.hid (fun wx hx => (hR wx hx).2)
      have CQ := Lib.hid (fun wx hx => (hQ wx hx).2)
      obtain ⟨β, hβ⟩ : ∃ β, sameQ (a.getD j noQ) (b.getD j noQ) = β := ⟨_, rfl⟩
      have CA : Hid (∀ wx, NewBut wr wx → Calls Try.prog 11 #[.agg R.toArray, .agg Q.toArray] wx fun x w' => x = .returned (.bool β) ∧ NewBut wr w') := Lib.hid fun wx hx => (mr_SameQ _ _ _ _ β wx hβ (hR wx hx).1 (hQ wx hx).1 (HVA.out j hlt) (HVB.out j (by rw [← HN.out]; exact hlt))).mono fun x w' ⟨q1, q2⟩ => ⟨q1, hx.trans (q2.mono hx.size)⟩
      have d1 : (j : Int) < (a.length : Int) := by omega
      have HLT := Lib.hid hlt
      have HBE := Lib.hid hβ
      clear hR hQ N1 N2 hβ hlt hj gb
      go_wp2_with fail
      cases β
      all_goals
        refine region_quiet_tail (C := NewBut wr) 9 mixed (by kernel_rfl) (show Below _ _ _ from (Below.refl _ _).drew) ?_
        simp only [List.take_succ_cons, List.take_zero, List.drop_succ_cons, List.drop_zero]
        repeat (first | (refine wpQuiet_load_addr rfl 40 _ rfl (a1.add (j * 8)) rfl R CR.out Try.underlying40 rfl (by rw [size_req, hl0]) ?_) | (refine wpQuiet_load_addr rfl 40 _ rfl (b1.add (j * 8)) rfl Q CQ.out Try.underlying40 rfl (by rw [size_req, hl1]) ?_) | go_big_quiet_step (fail) | (refine wpQuiet_step (fun K' hK' => ?_); go_simp; first | (refine hK' _ ?_; clear hK' K') | (refine ⟨_, fun _ _ => rfl, hK' _ ?_⟩; clear hK' K') | ((with_reducible refine ⟨_, fun wx hx => CA.out wx hx, hK' _ ?_⟩); clear hK' K')))
        refine wpQuiet_nil ?_
        intro wz hz
        have GZ := Lib.hid (GB.out.trans (Below.mono hz GB.out.size))
        clear hz
      · obtain rfl := sameLog_at HR.out HLT.out HBE.out
        go_wp2_with (first | (go_skip) | fail)
        go_ret
        exact ⟨rfl, GZ.out⟩
      · go_wp2_with (first | (go_skip) | fail)
        go_roundw
        case rel => exact ⟨j + 1, by have := HLT.out; omega, by go_num, fun k hk => by
          by_cases e : k = j
          · rw [e]; exact HBE.out
          · exact HAL.out k (by omega), GZ.out⟩
        case measure => (have := HLT.out; simp [intOf]; omega)
    · obtain rfl : j = a.length := by omega
      obtain rfl := sameLog_all HR.out HN.out HAL.out
      clear hlt hj
      go_wp2
      go_ret
      exact ⟨rfl, GB.out⟩
end Go.Proofs.Ytloogjdojojehaa
namespace Go.Proofs.Ytloogjdojojehaa
open Go.RowKit
set_option linter.unusedVariables false

/-- are these replies the same? -/
def sameI (x y : RepI) : Bool := decide (x.err = y.err) && decide (x.ids = y.ids) && sameV x.ver y.ver
theorem sameI_iff {x y : RepI} : sameI x y = true ↔ x.err = y.err ∧ x.ids = y.ids ∧ sameV x.ver y.ver = true := by
  unfold sameI
  simp only [Bool.and_eq_true, decide_eq_true_eq, and_assoc]
theorem sameI_no {x y : RepI} {r : Bool} (hr : sameI x y = r) (h : ¬ (x.err = y.err ∧ x.ids = y.ids ∧ sameV x.ver y.ver = true)) : false = r := by
  cases r with
  | false => rfl
  | true => exact absurd (sameI_iff.1 hr) h
theorem sameI_self (x : RepI) : sameI x x = true := sameI_iff.2 ⟨rfl, rfl, same_self x.ver⟩
def RepIS (x : RepI) : Prop := x.ids.length ≤ 1000 ∧ True ∧ VerS x.ver
def RepIK (x : RepI) : Prop := x.ids.length ≤ 1000000 ∧ x.ver.ok ∧ x.ver.bl.length ≤ 1000000 ∧ x.ver.ns.length ≤ 1000000 ∧ x.ver.zs.length ≤ 1000000
theorem RepIS.ok {x : RepI} (h : RepIS x) : RepIK x := ⟨Nat.le_trans h.1 (by decide), h.2.2.1, Nat.le_trans h.2.2.2.1 (by decide), Nat.le_trans h.2.2.2.2.1 (by decide), Nat.le_trans h.2.2.2.2.2 (by decide)⟩
set_option maxRecDepth 100000 in
set_option maxHeartbeats 1000000 in
theorem vr_SameI (x y : RepI) (R Q : List Value) (r : Bool) (w : World) (hr : sameI x y = r) (hA : RepIV w R x) (hB : RepIV w Q y) (ha : RepIK x) (hb : RepIK y) :
    Calls Try.prog 30 #[.agg R.toArray, .agg Q.toArray] w fun e w' => e = .returned (.bool r) ∧ Below w.heap.size w w' := by
  obtain ⟨v1, V, rfl, ⟨p, c, rfl⟩, sa, va⟩ := hA
  obtain ⟨v2, U, rfl, ⟨q, d, rfl⟩, sb, vb⟩ := hB
  obtain ⟨ex, lx, vx⟩ := x
  obtain ⟨ey, ly, vy⟩ := y
  dsimp only at *
  obtain ⟨hl1, ha1, ha2, ha3, ha4⟩ := ha
  obtain ⟨hl2, hb1, _⟩ := hb
  dsimp only at *
  have hVl := va.len
  have hUl := vb.len
  obtain ⟨B, hBB⟩ : ∃ B, w.heap.size = B := ⟨_, rfl⟩
  obtain ⟨CA, hCA⟩ : ∃ CA : List Value, .int .i64 (ex : Int) :: .slice p lx.length c :: V = CA := ⟨_, rfl⟩
  obtain ⟨CB, hCB⟩ : ∃ CB : List Value, .int .i64 (ey : Int) :: .slice q ly.length d :: U = CB := ⟨_, rfl⟩
  have a0 : CA[0]? = some (.int .i64 (ex : Int)) := by rw [← hCA]; rfl
  have a1 : CA[1]? = some (.slice p lx.length c) := by rw [← hCA]; rfl
  have a2 : ∀ j x, V[j]? = some x → CA[2 + j]? = some x := fun j x h => by rw [← hCA, Nat.add_comm]; exact h
  have b0 : CB[0]? = some (.int .i64 (ey : Int)) := by rw [← hCB]; rfl
  have b1 : CB[1]? = some (.slice q ly.length d) := by rw [← hCB]; rfl
  have b2 : ∀ j x, U[j]? = some x → CB[2 + j]? = some x := fun j x h => by rw [← hCB, Nat.add_comm]; exact h
  rw [hCA, hCB]
  clear hCA hCB
  have k0 := (Blk.newAt w B hBB 32 (c := CA.toArray) CA rfl).alloc (.cells CB.toArray 32)
  have k1 := Blk.newAt (w.alloc (.cells CA.toArray 32)) (B + 1) (by simp [hBB]) 32 (c := CB.toArray) CB rfl
  have kb := ((Below.refl w.heap.size w).alloc (Nat.le_refl _) (.cells CA.toArray 32)).alloc (by simp) (.cells CB.toArray 32)
  have K0 := Lib.hid k0
  have K1 := Lib.hid k1
  have KB := Lib.hid kb
  have HR := Lib.hid hr
  have SA := Lib.hid sa
  have SB := Lib.hid sb
  have A1 := Lib.hid a1
  have B1 := Lib.hid b1
  have ca0 := k0.cellOf a0
  have ca1 := k0.cellOf a1
  have cb0 := k1.cellOf b0
  have cb1 := k1.cellOf b1
  have HVA : Hid (∀ j x, V[j]? = some x → ((w.alloc (.cells CA.toArray 32)).alloc (.cells CB.toArray 32)).cell? ((⟨B, 2, none⟩ : Addr).add j) = some x) := Lib.hid fun j x h => by rw [Addr.add_mid]; exact k0.cellOf (a2 j x h)
  have HVB : Hid (∀ j x, U[j]? = some x → ((w.alloc (.cells CA.toArray 32)).alloc (.cells CB.toArray 32)).cell? ((⟨B + 1, 2, none⟩ : Addr).add j) = some x) := Lib.hid fun j x h => by rw [Addr.add_mid]; exact k1.cellOf (b2 j x h)
  have HSM : Hid (∀ wx, Below w.heap.size w wx → Calls Try.prog 23 #[.agg V.toArray, .agg U.toArray] wx fun e w' => e = .returned (.bool (sameV vx vy)) ∧ Below wx.heap.size wx w') := Lib.hid fun wx h => hr_Same vx vy _ _ (sameV vx vy) wx rfl (va.below h) (vb.below h) ha1 hb1 ha2 ha3 ha4
  have HVL : Hid ((Try.prog.info? 30).map (·.size) = some V.length) := Lib.hid (by rw [size_ver, hVl])
  have HUL : Hid ((Try.prog.info? 30).map (·.size) = some U.length) := Lib.hid (by rw [size_ver, hUl])
  clear k0 k1 kb a0 a1 a2 b0 b1 b2 sa sb va vb hVl hUl ha1 ha2 ha3 ha4 hb1 hr
  by_cases q0 : ex = ey
  rotate_left
  · have HN := Lib.hid (sameI_no HR.out (fun h => q0 h.1))
    have e0 : ((ex : Int) != (ey : Int)) = true := by simp; omega
    clear q0
    go_enter Try.func30, Try.ntmps30
    go_wp2
    go_ret
    exact ⟨congrArg (fun x => Ending.returned (.bool x)) HN.out, KB.out⟩
  subst q0
  by_cases q1 : lx.length = ly.length
  rotate_left
  · have HN := Lib.hid (sameI_no HR.out (fun h => q1 (congrArg List.length h.2.1)))
    have e1 : ((lx.length : Int) != (ly.length : Int)) = true := by simp; omega
    clear q1
    go_enter Try.func30, Try.ntmps30
    go_wp2
    go_ret
    exact ⟨congrArg (fun x => Ending.returned (.bool x)) HN.out, KB.out⟩
  have L1 := Lib.hid q1
  rw [← q1] at B1 cb1
  clear q1
  obtain ⟨sv, hsv⟩ : ∃ sv, sameV vx vy = sv := ⟨_, rfl⟩
  rw [hsv] at HSM
  have HSV := Lib.hid hsv
  clear hsv
  go_enter Try.func30, Try.ntmps30
  go_wp2_with (first | (refine wpList_load_addrV rfl 30 _ rfl ⟨B, 2, none⟩ rfl V HVA.out Try.underlying30 rfl HVL.out ?_) | (refine wpList_load_addrV rfl 30 _ rfl ⟨B + 1, 2, none⟩ rfl U HVB.out Try.underlying30 rfl HUL.out ?_))
  refine (HSM.out _ KB.out).mono ?_
  rintro e w3 ⟨rfl, hb3⟩
  have k0 := K0.out.below hb3 K0.out.lt
  have k1 := K1.out.below hb3 K1.out.lt
  have KB3 := Lib.hid (below_then hb3 KB.out)
  have K03 := Lib.hid k0
  have K13 := Lib.hid k1
  clear ca0 ca1 cb0 cb1 K0 K1 KB HVA HVB HSM hb3 k0 k1 HVL HUL
  cases sv with
  | false =>
    have HN := Lib.hid (sameI_no HR.out (fun h => by have h2 := h.2.2; rw [HSV.out] at h2; cases h2))
    go_wp2
    go_ret
    exact ⟨congrArg (fun x => Ending.returned (.bool x)) HN.out, KB3.out⟩
  | true =>
    go_wp2
    go_loopw [5] (fun i wr => ∃ j : Nat, j ≤ lx.length ∧ i = .int .i64 (j : Int) ∧ (∀ k, k < j → lx.getD k 0 = ly.getD k 0) ∧ Blk wr B 32 CA ∧ Blk wr (B + 1) 32 CB ∧ Below w.heap.size w wr) (fun i _ => lx.length - (intOf i).toNat)
    case atStart => exact ⟨0, by omega, rfl, (fun k h => by omega), K03.out, K13.out, KB3.out⟩
    case round =>
      obtain ⟨j, hj, rfl, hf, bb0, bb1, gb⟩ := hrel
      clear K03 K13 KB3
      have HF := Lib.hid hf
      have B0 := Lib.hid bb0
      have B1' := Lib.hid bb1
      have GB := Lib.hid gb
      have x0 := bb0.cellOf A1.out
      have x1 := bb1.cellOf B1.out
      clear hf bb0 bb1 gb
      by_cases hlt : j < lx.length
      · have hltb : j < ly.length := by rw [← L1.out]; exact hlt
        have dj : (j : Int) < (lx.length : Int) := by omega
        obtain ⟨a1, rfl, y0⟩ := SlU.cell (SA.out.below GB.out) hlt
        obtain ⟨a2, rfl, y1⟩ := SlU.cell (l := ly) (j := j) (SB.out.below GB.out) hltb
        by_cases hq : lx.getD j 0 = ly.getD j 0
        · have HQ := Lib.hid hq
          rw [← hq] at y1
          clear hq
          generalize lx.getD j 0 = X at y0 y1
          go_wp2_with fail
          go_quiet (fail)
          go_wp2
          go_roundw
          case rel => exact ⟨j + 1, by omega, by go_num, (fun k hk => by
            rcases Nat.lt_or_ge k j with h | h
            · exact HF.out k h
            · obtain rfl : k = j := by omega
              exact HQ.out), B0.out.drewN _, B1'.out.drewN _, below_drewN GB.out _⟩
          case measure => (simp [intOf]; try omega)
        · have HN := Lib.hid (sameI_no HR.out (fun h => hq (by rw [show lx = ly from h.2.1])))
          generalize lx.getD j 0 = X at *
          generalize ly.getD j 0 = Y at *
          have hne : ((X : Int) != (Y : Int)) = true := by simp; omega
          clear hq
          go_wp2_with fail
          go_quiet (fail)
          go_wp2
          go_ret
          exact ⟨congrArg (fun x => Ending.returned (.bool x)) HN.out, below_drewN GB.out _⟩
      · obtain rfl : j = lx.length := by omega
        have Q1 := Lib.hid (listU_ext L1.out HF.out)
        clear HF hj hlt
        go_wp2
        go_ret
        have HY := (sameI_iff (x := ⟨ex, lx, vx⟩) (y := ⟨ex, ly, vy⟩)).2 ⟨rfl, Q1.out, HSV.out⟩
        rw [HR.out] at HY
        exact ⟨congrArg (fun x => Ending.returned (.bool x)) HY.symm, GB.out⟩
end Go.Proofs.Ytloogjdojojehaa
namespace Go.Proofs.Ytloogjdojojehaa
open Go.RowKit
set_option linter.unusedVariables false

/-- are two messages the same? -/
def sameM (x y : MsgU) : Bool := decide (x.kind = y.kind) && decide (x.src = y.src) && decide (x.dst = y.dst) && decide (x.view = y.view) && decide (x.last = y.last) && decide (x.n = y.n) && decide (x.commit = y.commit) && sameLog x.log y.log && decide (x.client = y.client) && decide (x.seq = y.seq) && sameI x.rep y.rep && (nn x.hash == nn y.hash) && decide (x.block = y.block)
theorem sameM_self (x : MsgU) : sameM x x = true := by
  unfold sameM
  rw [sameLog_self, sameI_self]
  simp
/-- what is known of a message that is compared -/
structure MsgI (m : MsgU) : Prop where
  ll : m.log.length ≤ 1000000
  lv : ∀ i, i < m.log.length → VerS (m.log.getD i noQ).ver
  rs : RepIS m.rep
theorem eql_hash18 (x y : List Nat) (hx : x.length = 32) (hy : y.length = 32) (b : Bool) (hb : (nn x == nn y) = b) (w : World) : (binOp .eql 34 (.agg (ints .u8 (nn x)).toArray) (.agg (ints .u8 (nn y)).toArray)).run Try.prog w = .ok (.bool b) w := by
  rw [← hb]
  exact run_eql_ints (P := Try.prog) w 34 5 32 .u8 Try.underlying34 Try.underlying5 sizeOf_u8 (nn x) (nn y) (by rw [nn_length, hx]) (by rw [nn_length, hy])
set_option maxRecDepth 100000 in
set_option maxHeartbeats 8000000 in
theorem mr_SameY (x : MsgU) (vx vy : Value) (w : World) (hA : MsgTold w vx x) (hB : MsgTold w vy x) (ha : MsgI x) :
    Calls Try.prog 14 #[vx, vy] w fun e w' => e = .returned (.bool true) ∧ Below w.heap.size w w' := by
  obtain ⟨pl, cl, rp, rfl, hl, hrp, h32, hby⟩ := msg_split hA
  obtain ⟨ql, dl, rq, rfl, gl, grq, g32, gby⟩ := msg_split hB
  have hr6 := hrp.row.1
  have gr6 := grq.row.1
  have hh : (ints .u8 (nn x.hash)).length = 32 := by rw [ints_length, nn_length, h32]
  have gh : (ints .u8 (nn x.hash)).length = 32 := by rw [ints_length, nn_length, g32]
  have hch := fun wx M (hk : Blk wx M 54 (mC x.kind x.src x.dst x.view x.last x.n x.commit (.slice pl x.log.length cl) x.client x.seq rp (ints .u8 (nn x.hash)) x.block)) => And.intro (mC_rep hk) (And.intro (mC_hash hk hr6) (hk.cellOf (mC_last _ _ _ _ _ _ _ _ _ _ _ ⟨#[]⟩ hr6 hh).1))
  have gch := fun wx M (hk : Blk wx M 54 (mC x.kind x.src x.dst x.view x.last x.n x.commit (.slice ql x.log.length dl) x.client x.seq rq (ints .u8 (nn x.hash)) x.block)) => And.intro (mC_rep hk) (And.intro (mC_hash hk gr6) (hk.cellOf (mC_last _ _ _ _ _ _ _ _ _ _ _ ⟨#[]⟩ gr6 gh).1))
  obtain ⟨R, hR⟩ : ∃ R, mC x.kind x.src x.dst x.view x.last x.n x.commit (.slice pl x.log.length cl) x.client x.seq rp (ints .u8 (nn x.hash)) x.block = R := ⟨_, rfl⟩
  obtain ⟨Q, hQ⟩ : ∃ Q, mC x.kind x.src x.dst x.view x.last x.n x.commit (.slice ql x.log.length dl) x.client x.seq rq (ints .u8 (nn x.hash)) x.block = Q := ⟨_, rfl⟩
  have hR' := hR
  have hQ' := hQ
  rw [hR] at hch ⊢
  rw [hQ] at gch ⊢
  have k0 := (Blk.newAt w w.heap.size rfl 54 (c := R.toArray) R rfl).alloc (.cells Q.toArray 54)
  have k1 := Blk.newAt (w.alloc (.cells R.toArray 54)) (w.heap.size + 1) (by simp) 54 (c := Q.toArray) Q rfl
  have kb := ((Below.refl w.heap.size w).alloc (Nat.le_refl _) (.cells R.toArray 54)).alloc (by simp) (.cells Q.toArray 54)
  have K0 := Lib.hid k0
  have K1 := Lib.hid k1
  have KB := Lib.hid kb
  have HCH := Lib.hid hch
  have GCH := Lib.hid gch
  have HR6 : Hid (rp.length = 6 ∧ rq.length = 6) := Lib.hid ⟨hr6, gr6⟩
  have H32 : Hid ((ints .u8 (nn x.hash)).length = 32 ∧ (ints .u8 (nn x.hash)).length = 32) := Lib.hid ⟨hh, gh⟩
  have HBX : Hid ((∀ wx, Blk wx w.heap.size 54 R → wx.cell? ⟨w.heap.size, 8, none⟩ = some (.int .i64 x.client) ∧ wx.cell? ⟨w.heap.size, 9, none⟩ = some (.int .u32 (x.seq : Int))) ∧ (∀ wx, Blk wx (w.heap.size + 1) 54 Q → wx.cell? ⟨w.heap.size + 1, 8, none⟩ = some (.int .i64 x.client) ∧ wx.cell? ⟨w.heap.size + 1, 9, none⟩ = some (.int .u32 (x.seq : Int)))) := Lib.hid
    ⟨fun wx hk => by rw [← hR'] at hk; exact ⟨hk.cellOf rfl, hk.cellOf rfl⟩, fun wx hk => by rw [← hQ'] at hk; exact ⟨hk.cellOf rfl, hk.cellOf rfl⟩⟩
  have ca0 : ((w.alloc (.cells R.toArray 54)).alloc (.cells Q.toArray 54)).cell? ⟨w.heap.size, 0, none⟩ = some (.int .i64 x.kind) := by rw [← hR'] at k0 ⊢; exact k0.cellOf rfl
  have cb0 : ((w.alloc (.cells R.toArray 54)).alloc (.cells Q.toArray 54)).cell? ⟨w.heap.size + 1, 0, none⟩ = some (.int .i64 x.kind) := by rw [← hQ'] at k1 ⊢; exact k1.cellOf rfl
  have ca1 : ((w.alloc (.cells R.toArray 54)).alloc (.cells Q.toArray 54)).cell? ⟨w.heap.size, 1, none⟩ = some (.int .i64 x.src) := by rw [← hR'] at k0 ⊢; exact k0.cellOf rfl
  have cb1 : ((w.alloc (.cells R.toArray 54)).alloc (.cells Q.toArray 54)).cell? ⟨w.heap.size + 1, 1, none⟩ = some (.int .i64 x.src) := by rw [← hQ'] at k1 ⊢; exact k1.cellOf rfl
  have ca2 : ((w.alloc (.cells R.toArray 54)).alloc (.cells Q.toArray 54)).cell? ⟨w.heap.size, 2, none⟩ = some (.int .i64 x.dst) := by rw [← hR'] at k0 ⊢; exact k0.cellOf rfl
  have cb2 : ((w.alloc (.cells R.toArray 54)).alloc (.cells Q.toArray 54)).cell? ⟨w.heap.size + 1, 2, none⟩ = some (.int .i64 x.dst) := by rw [← hQ'] at k1 ⊢; exact k1.cellOf rfl
  have ca3 : ((w.alloc (.cells R.toArray 54)).alloc (.cells Q.toArray 54)).cell? ⟨w.heap.size, 3, none⟩ = some (.int .u32 (x.view : Int)) := by rw [← hR'] at k0 ⊢; exact k0.cellOf rfl
  have cb3 : ((w.alloc (.cells R.toArray 54)).alloc (.cells Q.toArray 54)).cell? ⟨w.heap.size + 1, 3, none⟩ = some (.int .u32 (x.view : Int)) := by rw [← hQ'] at k1 ⊢; exact k1.cellOf rfl
  have ca4 : ((w.alloc (.cells R.toArray 54)).alloc (.cells Q.toArray 54)).cell? ⟨w.heap.size, 4, none⟩ = some (.int .u32 (x.last : Int)) := by rw [← hR'] at k0 ⊢; exact k0.cellOf rfl
  have cb4 : ((w.alloc (.cells R.toArray 54)).alloc (.cells Q.toArray 54)).cell? ⟨w.heap.size + 1, 4, none⟩ = some (.int .u32 (x.last : Int)) := by rw [← hQ'] at k1 ⊢; exact k1.cellOf rfl
  have ca5 : ((w.alloc (.cells R.toArray 54)).alloc (.cells Q.toArray 54)).cell? ⟨w.heap.size, 5, none⟩ = some (.int .i64 x.n) := by rw [← hR'] at k0 ⊢; exact k0.cellOf rfl
  have cb5 : ((w.alloc (.cells R.toArray 54)).alloc (.cells Q.toArray 54)).cell? ⟨w.heap.size + 1, 5, none⟩ = some (.int .i64 x.n) := by rw [← hQ'] at k1 ⊢; exact k1.cellOf rfl
  have ca6 : ((w.alloc (.cells R.toArray 54)).alloc (.cells Q.toArray 54)).cell? ⟨w.heap.size, 6, none⟩ = some (.int .i64 x.commit) := by rw [← hR'] at k0 ⊢; exact k0.cellOf rfl
  have cb6 : ((w.alloc (.cells R.toArray 54)).alloc (.cells Q.toArray 54)).cell? ⟨w.heap.size + 1, 6, none⟩ = some (.int .i64 x.commit) := by rw [← hQ'] at k1 ⊢; exact k1.cellOf rfl
  have ca7 : ((w.alloc (.cells R.toArray 54)).alloc (.cells Q.toArray 54)).cell? ⟨w.heap.size, 7, none⟩ = some (.slice pl x.log.length cl) := by rw [← hR'] at k0 ⊢; exact k0.cellOf rfl
  have cb7 : ((w.alloc (.cells R.toArray 54)).alloc (.cells Q.toArray 54)).cell? ⟨w.heap.size + 1, 7, none⟩ = some (.slice ql x.log.length dl) := by rw [← hQ'] at k1 ⊢; exact k1.cellOf rfl
  obtain ⟨βl, hβl⟩ : ∃ t, sameLog x.log x.log = t := ⟨_, rfl⟩
  obtain rfl : true = βl := by rw [← hβl, sameLog_self]
  obtain ⟨βr, hβr⟩ : ∃ t, sameI x.rep x.rep = t := ⟨_, rfl⟩
  obtain rfl : true = βr := by rw [← hβr, sameI_self]
  obtain ⟨βh, hβh⟩ : ∃ t, (nn x.hash == nn x.hash) = t := ⟨_, rfl⟩
  obtain rfl : true = βh := by rw [← hβh]; simp
  have HLG := Lib.hid (mr_SameLog x.log x.log pl ql cl dl true _ hβl ha.ll ha.ll (hl.below kb) (gl.below kb) ha.lv ha.lv)
  have HRG := Lib.hid (fun wx (h : Below w.heap.size w wx) => vr_SameI x.rep x.rep rp rq true wx hβr (hrp.below h) (grq.below h) ha.rs.ok ha.rs.ok)
  have heq := eql_hash18 x.hash x.hash h32 g32 true hβh
  skip
  skip
  skip
  obtain ⟨hx, hhx⟩ : ∃ z, ints .u8 (nn x.hash) = z := ⟨_, rfl⟩
  rw [hhx] at heq HCH GCH H32
  clear k0 k1 kb hR hQ hR' hQ' hch gch hl gl hrp grq h32 g32 hby gby hr6 gr6 hh gh ha hβl hβr hβh hA hB hhx







  go_enter Try.func14, Try.ntmps14
  go_wp2_with (first | (go_skip) | fail)
  refine HLG.out.mono ?_
  rintro e w5 ⟨rfl, b5⟩
  have B5 := Lib.hid (KB.out.trans (b5.mono KB.out.size))
  have K05 := Lib.hid (K0.out.below b5 K0.out.lt)
  have K15 := Lib.hid (K1.out.below b5 K1.out.lt)
  clear b5 HLG ca0 cb0 ca1 cb1 ca2 cb2 ca3 cb3 ca4 cb4 ca5 cb5 ca6 cb6 ca7 cb7
  obtain ⟨ca8, ca9⟩ := HBX.out.1 _ K05.out
  obtain ⟨cb8, cb9⟩ := HBX.out.2 _ K15.out


  have HRA := Lib.hid (HCH.out _ _ K05.out).1
  have HRB := Lib.hid (GCH.out _ _ K15.out).1
  have HRG5 := Lib.hid (HRG.out _ B5.out)
  go_wp2_with (first | (go_skip) | (refine wpList_load_addrV rfl 32 _ rfl ⟨w.heap.size, 10, none⟩ rfl rp HRA.out Try.underlying32 rfl (by rw [size_rep, HR6.out.1]) ?_) | (refine wpList_load_addrV rfl 32 _ rfl ⟨w.heap.size + 1, 10, none⟩ rfl rq HRB.out Try.underlying32 rfl (by rw [size_rep, HR6.out.2]) ?_))
  refine HRG5.out.mono ?_
  rintro e w6 ⟨rfl, b6⟩
  have B6 := Lib.hid (B5.out.trans (b6.mono B5.out.size))
  have hA := HCH.out _ _ (K05.out.below b6 K05.out.lt)
  have hB := GCH.out _ _ (K15.out.below b6 K15.out.lt)
  have HHA := Lib.hid hA.2.1
  have HHB := Lib.hid hB.2.1
  have ca48 := hA.2.2
  have cb48 := hB.2.2
  clear b6 ca8 ca9 cb8 cb9 hA hB HRA HRB HRG5 HRG K05 K15
  have t1 := txt_eq (rfl : x.block = x.block)
  generalize x.block = X at *
  go_wp2_with (first | (go_skip) | (refine wpList_load_addrV rfl 34 _ rfl ⟨w.heap.size, 16, none⟩ rfl hx HHA.out Try.underlying34 rfl (by rw [size_hash18, H32.out.1]) ?_) | (refine wpList_load_addrV rfl 34 _ rfl ⟨w.heap.size + 1, 16, none⟩ rfl hx HHB.out Try.underlying34 rfl (by rw [size_hash18, H32.out.2]) ?_))
  go_ret
  exact ⟨rfl, B6.out⟩
end Go.Proofs.Ytloogjdojojehaa
