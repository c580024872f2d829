/- Walk of the reference's Same of replies (stage 17). -/
import Derived.Test.YtogonbgelaehhaaUGb
import Derived.Test.YtogonbgelaehhaaHG
import Derived.BigFrame
import Derived.Test.YtogonbgelaehhaaG4
namespace Go.Proofs.Ytogonbgelaehhaa
open Go.RowKit
set_option linter.unusedVariables false

/-- are these replies the same? -/
def sameR (x y : RepU RawV) : Bool := decide (x.err = y.err) && decide (x.ids = y.ids) && sameV x.ver y.ver
theorem sameR_iff {x y : RepU RawV} : sameR x y = true ↔ x.err = y.err ∧ x.ids = y.ids ∧ sameV x.ver y.ver = true := by
  unfold sameR
  simp only [Bool.and_eq_true, decide_eq_true_eq, and_assoc]
theorem sameR_no {x y : RepU RawV} {r : Bool} (hr : sameR x y = r) (h : ¬ (x.err = y.err ∧ x.ids = y.ids ∧ sameV x.ver y.ver = true)) : false = r := by
  cases r with
  | false => rfl
  | true => exact absurd (sameR_iff.1 hr) h
theorem sameR_self (x : RepU RawV) : sameR x x = true := sameR_iff.2 ⟨rfl, rfl, same_self x.ver⟩
theorem listU_ext {a b : List Nat} (h : a.length = b.length) (he : ∀ k, k < a.length → a.getD k 0 = b.getD k 0) : a = b := by
  refine List.ext_getElem h fun k h1 h2 => ?_
  have := he k h1
  rwa [List.getD_eq_getElem?_getD, List.getD_eq_getElem?_getD, List.getElem?_eq_getElem h1, List.getElem?_eq_getElem h2] at this
section
variable {P : Program} {ops : Array Oper} {rest : List Oper} {o : Oper} {a : Act} {w : World} {Q : Exit → Act → World → Prop}
theorem wpList_load_addrV (hgd : Region.wanted o (yielded ops a.tmps) = true) (ty : TypeId) (x : Operand) (ho : o.op = .load ty x)
    (p : Addr) (hx : a.eval x = .pointer (some p)) (cs : List Value) {d : TypeDesc} (hc : ∀ j v, cs[j]? = some v → w.cell? (p.add j) = some v)
    (hu : P.underlying ty = some d) (hd : d.isRow = true) (hi : (P.info? ty).map (·.size) = some cs.length)
    (h : wpList P ops Q rest (a.put o.dst (.agg cs.toArray)) w) : wpList P ops Q (o :: rest) a w :=
  BigFrame.wpList_want hgd fun _ hK => by
    unfold Oper.wp execOp
    simp only [ho, hx, Instr.loadAt, Instr.sureAddr, Sem.run_bind, Sem.run_pure, Result.andThen_ok, run_loadVar_addr w p ty cs d hc hu hd hi]
    exact hK _ _ h
end
/-- what is known of a reply that is compared -/
def RepOk (x : RepU RawV) : Prop := x.ids.length ≤ 1000000 ∧ x.ver.ok ∧ x.ver.bl.length ≤ 1000000 ∧ x.ver.ns.length ≤ 1000000 ∧ x.ver.zs.length ≤ 1000000
set_option maxRecDepth 100000 in
set_option maxHeartbeats 1000000 in
theorem vr_Same (x y : RepU RawV) (R Q : List Value) (r : Bool) (w : World) (hr : sameR x y = r) (hA : RepOkV w R x) (hB : RepOkV w Q y) (ha : RepOk x) (hb : RepOk y) :
    Calls Try.prog 19 #[.agg R.toArray, .agg Q.toArray] w fun e w' => e = .returned (.bool r) ∧ Below w.heap.size w w' := by
  obtain ⟨v1, V, rfl, ⟨p, c, rfl⟩, sa, va⟩ := hA
  obtain ⟨v2, U, rfl, ⟨q, d, rfl⟩, sb, vb⟩ := hB
  obtain ⟨ex, lx, vx⟩ := x
  obtain ⟨ey, ly, vy⟩ := y
  dsimp only at *
  obtain ⟨hl1, ha1, ha2, ha3, ha4⟩ := ha
  obtain ⟨hl2, hb1, _⟩ := hb
  dsimp only at *
  have hVl := va.len
  have hUl := vb.len
  obtain ⟨B, hBB⟩ : ∃ B, w.heap.size = B := ⟨_, rfl⟩
  obtain ⟨CA, hCA⟩ : ∃ CA : List Value, .int .i64 (ex : Int) :: .slice p lx.length c :: V = CA := ⟨_, rfl⟩
  obtain ⟨CB, hCB⟩ : ∃ CB : List Value, .int .i64 (ey : Int) :: .slice q ly.length d :: U = CB := ⟨_, rfl⟩
  have a0 : CA[0]? = some (.int .i64 (ex : Int)) := by rw [← hCA]; rfl
  have a1 : CA[1]? = some (.slice p lx.length c) := by rw [← hCA]; rfl
  have a2 : ∀ j x, V[j]? = some x → CA[2 + j]? = some x := fun j x h => by rw [← hCA, Nat.add_comm]; exact h
  have b0 : CB[0]? = some (.int .i64 (ey : Int)) := by rw [← hCB]; rfl
  have b1 : CB[1]? = some (.slice q ly.length d) := by rw [← hCB]; rfl
  have b2 : ∀ j x, U[j]? = some x → CB[2 + j]? = some x := fun j x h => by rw [← hCB, Nat.add_comm]; exact h
  rw [hCA, hCB]
  clear hCA hCB
  have k0 := (Blk.newAt w B hBB 39 (c := CA.toArray) CA rfl).alloc (.cells CB.toArray 39)
  have k1 := Blk.newAt (w.alloc (.cells CA.toArray 39)) (B + 1) (by simp [hBB]) 39 (c := CB.toArray) CB rfl
  have kb := ((Below.refl w.heap.size w).alloc (Nat.le_refl _) (.cells CA.toArray 39)).alloc (by simp) (.cells CB.toArray 39)
  have K0 := Lib.hid k0
  have K1 := Lib.hid k1
  have KB := Lib.hid kb
  have HR := Lib.hid hr
  have SA := Lib.hid sa
  have SB := Lib.hid sb
  have A1 := Lib.hid a1
  have B1 := Lib.hid b1
  have ca0 := k0.cellOf a0
  have ca1 := k0.cellOf a1
  have cb0 := k1.cellOf b0
  have cb1 := k1.cellOf b1
  have HVA : Hid (∀ j x, V[j]? = some x → ((w.alloc (.cells CA.toArray 39)).alloc (.cells CB.toArray 39)).cell? ((⟨B, 2, none⟩ : Addr).add j) = some x) := Lib.hid fun j x h => by rw [Addr.add_mid]; exact k0.cellOf (a2 j x h)
  have HVB : Hid (∀ j x, U[j]? = some x → ((w.alloc (.cells CA.toArray 39)).alloc (.cells CB.toArray 39)).cell? ((⟨B + 1, 2, none⟩ : Addr).add j) = some x) := Lib.hid fun j x h => by rw [Addr.add_mid]; exact k1.cellOf (b2 j x h)
  have HSM : Hid (∀ wx, Below w.heap.size w wx → Calls Try.prog 25 #[.agg V.toArray, .agg U.toArray] wx fun e w' => e = .returned (.bool (sameV vx vy)) ∧ Below wx.heap.size wx w') := Lib.hid fun wx h => hr_Same vx vy _ _ (sameV vx vy) wx rfl (va.below h) (vb.below h) ha1 hb1 ha2 ha3 ha4
  have HVL : Hid ((Try.prog.info? 28).map (·.size) = some V.length) := Lib.hid (by rw [size_ver, hVl])
  have HUL : Hid ((Try.prog.info? 28).map (·.size) = some U.length) := Lib.hid (by rw [size_ver, hUl])
  clear k0 k1 kb a0 a1 a2 b0 b1 b2 sa sb va vb hVl hUl ha1 ha2 ha3 ha4 hb1 hr
  by_cases q0 : ex = ey
  rotate_left
  · have HN := Lib.hid (sameR_no HR.out (fun h => q0 h.1))
    have e0 : ((ex : Int) != (ey : Int)) = true := by simp; omega
    clear q0
    go_enter Try.func19, Try.ntmps19
    go_wp2
    go_ret
    exact ⟨congrArg (fun x => Ending.returned (.bool x)) HN.out, KB.out⟩
  subst q0
  by_cases q1 : lx.length = ly.length
  rotate_left
  · have HN := Lib.hid (sameR_no HR.out (fun h => q1 (congrArg List.length h.2.1)))
    have e1 : ((lx.length : Int) != (ly.length : Int)) = true := by simp; omega
    clear q1
    go_enter Try.func19, Try.ntmps19
    go_wp2
    go_ret
    exact ⟨congrArg (fun x => Ending.returned (.bool x)) HN.out, KB.out⟩
  have L1 := Lib.hid q1
  rw [← q1] at B1 cb1
  clear q1
  obtain ⟨sv, hsv⟩ : ∃ sv, sameV vx vy = sv := ⟨_, rfl⟩
  rw [hsv] at HSM
  have HSV := Lib.hid hsv
  clear hsv
  go_enter Try.func19, Try.ntmps19
  go_wp2_with (first | (refine wpList_load_addrV rfl 28 _ rfl ⟨B, 2, none⟩ rfl V HVA.out Try.underlying28 rfl HVL.out ?_) | (refine wpList_load_addrV rfl 28 _ rfl ⟨B + 1, 2, none⟩ rfl U HVB.out Try.underlying28 rfl HUL.out ?_))
  refine (HSM.out _ KB.out).mono ?_
  rintro e w3 ⟨rfl, hb3⟩
  have k0 := K0.out.below hb3 K0.out.lt
  have k1 := K1.out.below hb3 K1.out.lt
  have KB3 := Lib.hid (below_then hb3 KB.out)
  have K03 := Lib.hid k0
  have K13 := Lib.hid k1
  clear ca0 ca1 cb0 cb1 K0 K1 KB HVA HVB HSM hb3 k0 k1 HVL HUL
  cases sv with
  | false =>
    have HN := Lib.hid (sameR_no HR.out (fun h => by have h2 := h.2.2; rw [HSV.out] at h2; cases h2))
    go_wp2
    go_ret
    exact ⟨congrArg (fun x => Ending.returned (.bool x)) HN.out, KB3.out⟩
  | true =>
    go_wp2
    go_loopw [5] (fun i wr => ∃ j : Nat, j ≤ lx.length ∧ i = .int .i64 (j : Int) ∧ (∀ k, k < j → lx.getD k 0 = ly.getD k 0) ∧ Blk wr B 39 CA ∧ Blk wr (B + 1) 39 CB ∧ Below w.heap.size w wr) (fun i _ => lx.length - (intOf i).toNat)
    case atStart => exact ⟨0, by omega, rfl, (fun k h => by omega), K03.out, K13.out, KB3.out⟩
    case round =>
      obtain ⟨j, hj, rfl, hf, bb0, bb1, gb⟩ := hrel
      clear K03 K13 KB3
      have HF := Lib.hid hf
      have B0 := Lib.hid bb0
      have B1' := Lib.hid bb1
      have GB := Lib.hid gb
      have x0 := bb0.cellOf A1.out
      have x1 := bb1.cellOf B1.out
      clear hf bb0 bb1 gb
      by_cases hlt : j < lx.length
      · have hltb : j < ly.length := by rw [← L1.out]; exact hlt
        have dj : (j : Int) < (lx.length : Int) := by omega
        obtain ⟨a1, rfl, y0⟩ := SlU.cell (SA.out.below GB.out) hlt
        obtain ⟨a2, rfl, y1⟩ := SlU.cell (l := ly) (j := j) (SB.out.below GB.out) hltb
        by_cases hq : lx.getD j 0 = ly.getD j 0
        · have HQ := Lib.hid hq
          rw [← hq] at y1
          clear hq
          generalize lx.getD j 0 = X at y0 y1
          go_wp2_with fail
          go_quiet (fail)
          go_wp2
          go_roundw
          case rel => exact ⟨j + 1, by omega, by go_num, (fun k hk => by
            rcases Nat.lt_or_ge k j with h | h
            · exact HF.out k h
            · obtain rfl : k = j := by omega
              exact HQ.out), B0.out.drewN _, B1'.out.drewN _, below_drewN GB.out _⟩
          case measure => (simp [intOf]; try omega)
        · have HN := Lib.hid (sameR_no HR.out (fun h => hq (by rw [show lx = ly from h.2.1])))
          generalize lx.getD j 0 = X at *
          generalize ly.getD j 0 = Y at *
          have hne : ((X : Int) != (Y : Int)) = true := by simp; omega
          clear hq
          go_wp2_with fail
          go_quiet (fail)
          go_wp2
          go_ret
          exact ⟨congrArg (fun x => Ending.returned (.bool x)) HN.out, below_drewN GB.out _⟩
      · obtain rfl : j = lx.length := by omega
        have Q1 := Lib.hid (listU_ext L1.out HF.out)
        clear HF hj hlt
        go_wp2
        go_ret
        have HY := (sameR_iff (x := ⟨ex, lx, vx⟩) (y := ⟨ex, ly, vy⟩)).2 ⟨rfl, Q1.out, HSV.out⟩
        rw [HR.out] at HY
        exact ⟨congrArg (fun x => Ending.returned (.bool x)) HY.symm, GB.out⟩
end Go.Proofs.Ytogonbgelaehhaa
namespace Go.Proofs.Ytogonbgelaehhaa
open Go.RowKit
set_option linter.unusedVariables false

theorem sizeOf_u32q (w : World) : (sizeOf 23).run Try.prog w = .ok 1 w := by kernel_rfl
theorem size_seqs : (Try.prog.info? 35).map (·.size) = some 3 := by kernel_rfl
theorem neq_seqs (x y : List Nat) (hx : x.length = 3) (hy : y.length = 3) (b : Bool) (hb : (nn x == nn y) = !b) (w : World) : (binOp .neq 35 (.agg (ints .u32 (nn x)).toArray) (.agg (ints .u32 (nn y)).toArray)).run Try.prog w = .ok (.bool b) w := by
  have h := run_eql_ints (P := Try.prog) w 35 23 3 .u32 Try.underlying35 Try.underlying23 sizeOf_u32q (nn x) (nn y) (by rw [nn_length, hx]) (by rw [nn_length, hy])
  rw [hb] at h
  simp only [binOp, Sem.run_bind] at h ⊢
  cases hr : (Op.equal 35 (.agg (ints .u32 (nn x)).toArray) (.agg (ints .u32 (nn y)).toArray)).run Try.prog w with
  | ok v w' =>
    rw [hr] at h
    simp at h
    simp [h]
  | halt v w' =>
    rw [hr] at h
    simp at h
theorem nn_iff {x y : List Nat} : nn x = nn y ↔ x = y := by
  constructor
  · intro h
    refine List.ext_getElem (by have := congrArg List.length h; rwa [nn_length, nn_length] at this) fun k h1 h2 => ?_
    have := congrArg (fun l => l[k]?) h
    simp [nn, h1, h2] at this
    omega
  · exact fun h => by rw [h]
/-- are these states the same? -/
def equalS (a b : StU RawV) : Bool := decide (a.vers.length = b.vers.length) && decide (a.seqs = b.seqs) && ((List.range a.vers.length).all fun i => sameV (a.vers.getD i noV) (b.vers.getD i noV)) && ((List.range 3).all fun i => sameR (a.last.getD i (wrongU noV 0)) (b.last.getD i (wrongU noV 0)))
theorem equalS_iff {a b : StU RawV} : equalS a b = true ↔ a.vers.length = b.vers.length ∧ a.seqs = b.seqs ∧ (∀ i, i < a.vers.length → sameV (a.vers.getD i noV) (b.vers.getD i noV) = true) ∧ (∀ i, i < 3 → sameR (a.last.getD i (wrongU noV 0)) (b.last.getD i (wrongU noV 0)) = true) := by
  unfold equalS
  simp only [Bool.and_eq_true, decide_eq_true_eq, List.all_eq_true, List.mem_range, and_assoc]
theorem equalS_no {a b : StU RawV} {r : Bool} (hr : equalS a b = r) (h : ¬ (a.vers.length = b.vers.length ∧ a.seqs = b.seqs ∧ (∀ i, i < a.vers.length → sameV (a.vers.getD i noV) (b.vers.getD i noV) = true) ∧ (∀ i, i < 3 → sameR (a.last.getD i (wrongU noV 0)) (b.last.getD i (wrongU noV 0)) = true))) : false = r := by
  cases r with
  | false => rfl
  | true => exact absurd (equalS_iff.1 hr) h
theorem equalS_self (a : StU RawV) : equalS a a = true := equalS_iff.2 ⟨rfl, rfl, fun i _ => same_self _, fun i _ => sameR_self _⟩
/-- what is known of a version that is compared -/
def VerOkC (a : RawV) : Prop := a.ok ∧ a.bl.length ≤ 1000000 ∧ a.ns.length ≤ 1000000 ∧ a.zs.length ≤ 1000000
def StOkC (s : StU RawV) : Prop := s.vers.length ≤ 1000000 ∧ (∀ i, i < s.vers.length → VerOkC (s.vers.getD i noV)) ∧ ∀ i, i < 3 → RepOk (s.last.getD i (wrongU noV 0))
theorem st_seqs {w : World} {v : Value} {s : StU RawV} (h : StTold w v s) : s.seqs.length = 3 := by
  obtain ⟨vv, s0, s1, s2, r0, r1, r2, x0, x1, x2, _, _, hq, _⟩ := h
  rw [hq]; rfl
theorem seqs_cells {S : List Value} {l : List Nat} (hl : l.length = 3) (h : ∀ j, j < 3 → S[1 + j]? = some (.int .u32 ((l.getD j 0 : Nat) : Int))) : ∀ j x, (ints .u32 (nn l))[j]? = some x → S[1 + j]? = some x := fun j x hx => by
  have hj : j < 3 := by have := (List.getElem?_eq_some_iff.1 hx).1; rwa [ints_length, nn_length, hl] at this
  rw [h j hj, ← hx]
  simp [ints, nn, hl, hj]
set_option maxRecDepth 100000 in
set_option maxHeartbeats 1000000 in
theorem vr_Equal (s t : StU RawV) (v u : Value) (r : Bool) (w : World) (hr : equalS s t = r) (hA : StTold w v s) (hB : StTold w u t) (ha : StOkC s) (hb : StOkC t) :
    Calls Try.prog 15 #[v, u] w fun e w' => e = .returned (.bool r) ∧ Below w.heap.size w w' := by
  have hq1 := st_seqs hA
  have hq2 := st_seqs hB
  obtain ⟨S, p, c, rfl, hSl, _, sa0, sav, saq, sar⟩ := st_cells3 hA
  obtain ⟨T, q, d, rfl, hTl, _, sb0, sbv, sbq, sbr⟩ := st_cells3 hB
  obtain ⟨ha0, ha1, ha2⟩ := ha
  obtain ⟨hb0, hb1, hb2⟩ := hb
  have sac := seqs_cells hq1 saq
  have sbc := seqs_cells hq2 sbq
  obtain ⟨B, hBB⟩ : ∃ B, w.heap.size = B := ⟨_, rfl⟩
  have k0 := (Blk.newAt w B hBB 46 (c := S.toArray) S rfl).alloc (.cells T.toArray 46)
  have k1 := Blk.newAt (w.alloc (.cells S.toArray 46)) (B + 1) (by simp [hBB]) 46 (c := T.toArray) T rfl
  have kb := ((Below.refl w.heap.size w).alloc (Nat.le_refl _) (.cells S.toArray 46)).alloc (by simp) (.cells T.toArray 46)
  have K0 := Lib.hid k0
  have K1 := Lib.hid k1
  have KB := Lib.hid kb
  have HR := Lib.hid hr
  have ca0 := k0.cellOf sa0
  have cb0 := k1.cellOf sb0
  have SA0 := Lib.hid sa0
  have SB0 := Lib.hid sb0
  have HCA : Hid (∀ wx, Blk wx B 46 S → ∀ j x, (ints .u32 (nn s.seqs))[j]? = some x → wx.cell? ((⟨B, 1, none⟩ : Addr).add j) = some x) := Lib.hid fun wx h j x hx => by rw [Addr.add_mid]; exact h.cellOf (sac j x hx)
  have HCB : Hid (∀ wx, Blk wx (B + 1) 46 T → ∀ j x, (ints .u32 (nn t.seqs))[j]? = some x → wx.cell? ((⟨B + 1, 1, none⟩ : Addr).add j) = some x) := Lib.hid fun wx h j x hx => by rw [Addr.add_mid]; exact h.cellOf (sbc j x hx)
  have HLA : Hid ((Try.prog.info? 35).map (·.size) = some (ints .u32 (nn s.seqs)).length) := Lib.hid (by rw [size_seqs, ints_length, nn_length, hq1])
  have HLB : Hid ((Try.prog.info? 35).map (·.size) = some (ints .u32 (nn t.seqs)).length) := Lib.hid (by rw [size_seqs, ints_length, nn_length, hq2])
  have SAV := Lib.hid sav
  have SBV := Lib.hid sbv
  have SAR := Lib.hid sar
  have SBR := Lib.hid sbr
  have HA1 := Lib.hid ha1
  have HB1 := Lib.hid hb1
  have HA2 := Lib.hid ha2
  have HB2 := Lib.hid hb2
  clear k0 k1 kb sa0 sb0 sac sbc saq sbq sav sbv sar sbr hA hB hr ha1 hb1 ha2 hb2 hSl hTl
  by_cases q0 : s.vers.length = t.vers.length
  rotate_left
  · have HN := Lib.hid (equalS_no HR.out (fun h => q0 h.1))
    have e0 : ((s.vers.length : Int) != (t.vers.length : Int)) = true := by simp; omega
    clear q0
    go_enter Try.func15, Try.ntmps15
    go_wp2
    go_ret
    exact ⟨congrArg (fun x => Ending.returned (.bool x)) HN.out, KB.out⟩
  have L0 := Lib.hid q0
  rw [← q0] at SB0 cb0 SBV
  have e0 : ((s.vers.length : Int) != (s.vers.length : Int)) = false := by simp
  clear q0
  obtain ⟨qs, hqs⟩ : ∃ qs : Bool, decide (s.seqs = t.seqs) = !qs := ⟨!decide (s.seqs = t.seqs), by simp⟩
  have hne := neq_seqs s.seqs t.seqs hq1 hq2 qs (by rw [← hqs]; by_cases h : s.seqs = t.seqs <;> simp [h, nn_iff])
  have HQS := Lib.hid hqs
  clear hqs hq1 hq2
  generalize ints .u32 (nn s.seqs) = XA at *
  generalize ints .u32 (nn t.seqs) = XB at *
  go_enter Try.func15, Try.ntmps15
  cases qs with
  | true =>
    have HN := Lib.hid (equalS_no HR.out (fun h => by have := HQS.out; rw [h.2.1] at this; simp at this))
    go_wp2_with (first | (refine wpList_load_addrV rfl 35 _ rfl ⟨B, 1, none⟩ rfl XA (HCA.out _ K0.out) Try.underlying35 rfl HLA.out ?_) | (refine wpList_load_addrV rfl 35 _ rfl ⟨B + 1, 1, none⟩ rfl XB (HCB.out _ K1.out) Try.underlying35 rfl HLB.out ?_))
    go_ret
    exact ⟨congrArg (fun x => Ending.returned (.bool x)) HN.out, KB.out⟩
  | false =>
    have Q0 : Hid (s.seqs = t.seqs) := Lib.hid (by have := HQS.out; simpa using this)
    go_wp2_with (first | (refine wpList_load_addrV rfl 35 _ rfl ⟨B, 1, none⟩ rfl XA (HCA.out _ K0.out) Try.underlying35 rfl HLA.out ?_) | (refine wpList_load_addrV rfl 35 _ rfl ⟨B + 1, 1, none⟩ rfl XB (HCB.out _ K1.out) Try.underlying35 rfl HLB.out ?_))
    clear HCA HCB HLA HLB ca0 cb0 hne
    go_loopw [5] (fun i wr => ∃ j : Nat, j ≤ s.vers.length ∧ i = .int .i64 (j : Int) ∧ (∀ k, k < j → sameV (s.vers.getD k noV) (t.vers.getD k noV) = true) ∧ Blk wr B 46 S ∧ Blk wr (B + 1) 46 T ∧ Below w.heap.size w wr) (fun i _ => s.vers.length - (intOf i).toNat)
    case atStart => exact ⟨0, by omega, rfl, (fun k h => by omega), K0.out, K1.out, KB.out⟩
    case round =>
      obtain ⟨j, hj, rfl, hf, bb0, bb1, gb⟩ := hrel
      clear K0 K1 KB
      have HF := Lib.hid hf
      have B0 := Lib.hid bb0
      have B1 := Lib.hid bb1
      have GB := Lib.hid gb
      have x0 := bb0.cellOf SA0.out
      have x1 := bb1.cellOf SB0.out
      clear hf bb0 bb1 gb
      by_cases hlt : j < s.vers.length
      · have hltb : j < t.vers.length := by rw [← L0.out]; exact hlt
        have dj : (j : Int) < (s.vers.length : Int) := by omega
        have hat := (SAV.out.below GB.out).at hlt
        have hbt := (SBV.out.below GB.out).at hltb
        obtain ⟨a1, V, rfl, hl1, hv1, hn1, hc1⟩ := hat
        obtain ⟨a2, U, rfl, hl2, hv2, hn2, hc2⟩ := hbt
        obtain ⟨sv, hsv⟩ : ∃ sv, sameV (s.vers.getD j noV) (t.vers.getD j noV) = sv := ⟨_, rfl⟩
        have hok1 := HA1.out j hlt
        have hok2 := HB1.out j hltb
        have HSM : Hid (∀ wx, NewBut wr wx → Calls Try.prog 25 #[.agg V.toArray, .agg U.toArray] wx fun e w' => e = .returned (.bool sv) ∧ NewBut wr w') := Lib.hid fun wx h => (hr_Same (s.vers.getD j noV) (t.vers.getD j noV) _ _ sv wx hsv (hv1.below h) (hv2.below h) hok1.1 hok2.1 hok1.2.1 hok1.2.2.1 hok1.2.2.2).mono fun e w' ⟨q1, q2⟩ => ⟨q1, below_then q2 h⟩
        have R0 : Hid (∀ wx, NewBut wr wx → ∀ i v, V[i]? = some v → wx.cell? ((a1.add (j * 4)).add i) = some v) := Lib.hid fun wx h i v hv => by rw [h.cell (by rw [add_block, add_block]; exact hl1)]; exact hc1 i v hv
        have R1 : Hid (∀ wx, NewBut wr wx → ∀ i v, U[i]? = some v → wx.cell? ((a2.add (j * 4)).add i) = some v) := Lib.hid fun wx h i v hv => by rw [h.cell (by rw [add_block, add_block]; exact hl2)]; exact hc2 i v hv
        have P0 : Hid (∀ wx, NewBut wr wx → wx.cell? ⟨B, 0, none⟩ = some (.slice (some a1) s.vers.length c)) := Lib.hid fun wx h => (B0.out.below h B0.out.lt).cellOf SA0.out
        have P1 : Hid (∀ wx, NewBut wr wx → wx.cell? ⟨B + 1, 0, none⟩ = some (.slice (some a2) s.vers.length d)) := Lib.hid fun wx h => (B1.out.below h B1.out.lt).cellOf SB0.out
        have HSV := Lib.hid hsv
        have hn1' : (Try.prog.info? 28).map (·.size) = some V.length := by rw [size_ver, hn1]
        have hn2' : (Try.prog.info? 28).map (·.size) = some U.length := by rw [size_ver, hn2]
        have N1 := Lib.hid hn1'
        have N2 := Lib.hid hn2'
        clear hl1 hv1 hn1 hc1 hl2 hv2 hn2 hc2 hok1 hok2 hsv hn1' hn2'
        go_wp2_with fail
        refine region_quiet_tail (C := NewBut wr) 11 mixed (by kernel_rfl) (show Below _ _ _ from (Below.refl _ _).drew) ?_
        simp only [List.take_succ_cons, List.take_zero, List.drop_succ_cons, List.drop_zero]
        repeat (first | (refine wpQuiet_load_addr rfl 28 _ rfl (a1.add (j * 4)) rfl V R0.out Try.underlying28 rfl N1.out ?_) | (refine wpQuiet_load_addr rfl 28 _ rfl (a2.add (j * 4)) rfl U R1.out Try.underlying28 rfl N2.out ?_) | (refine wpQuiet_load_one rfl 34 _ rfl ⟨B, 0, none⟩ rfl _ P0.out Try.underlying34 rfl ?_) | (refine wpQuiet_load_one rfl 34 _ rfl ⟨B + 1, 0, none⟩ rfl _ P1.out Try.underlying34 rfl ?_) | go_big_quiet_step (fail) | (refine wpQuiet_step (fun K' hK' => ?_); go_simp; first | (refine hK' _ ?_; clear hK' K') | (refine ⟨_, fun _ _ => rfl, hK' _ ?_⟩; clear hK' K') | ((with_reducible refine ⟨_, fun wx hx => HSM.out wx hx, hK' _ ?_⟩); clear hK' K')))
        refine wpQuiet_nil ?_
        intro w7 hb7
        have D7 := Lib.hid (below_then hb7 GB.out)
        have E0 := Lib.hid (B0.out.below hb7 B0.out.lt)
        have E1 := Lib.hid (B1.out.below hb7 B1.out.lt)
        clear hb7
        cases sv with
        | true =>
          go_wp2
          go_roundw
          case rel => exact ⟨j + 1, by omega, by go_num, (fun k hk => by
            rcases Nat.lt_or_ge k j with h | h
            · exact HF.out k h
            · obtain rfl : k = j := by omega
              exact HSV.out), E0.out, E1.out, D7.out⟩
          case measure => (simp [intOf]; try omega)
        | false =>
          have HN := Lib.hid (equalS_no HR.out (fun h => by have h2 := h.2.2.1 j hlt; rw [HSV.out] at h2; cases h2))
          go_wp2
          go_ret
          exact ⟨congrArg (fun x => Ending.returned (.bool x)) HN.out, D7.out⟩
      · obtain rfl : j = s.vers.length := by omega
        have HV := Lib.hid HF.out
        clear HF hj hlt SAV SBV HA1 HB1
        go_wp2
        go_loopw [6] (fun i wr => ∃ k : Nat, k ≤ 3 ∧ i = .int .i64 (k : Int) ∧ (∀ m, m < k → sameR (s.last.getD m (wrongU noV 0)) (t.last.getD m (wrongU noV 0)) = true) ∧ Blk wr B 46 S ∧ Blk wr (B + 1) 46 T ∧ Below w.heap.size w wr) (fun i _ => 3 - (intOf i).toNat)
        case atStart => exact ⟨0, by omega, rfl, (fun m h => by omega), B0.out, B1.out, GB.out⟩
        case round =>
          obtain ⟨k, hk, rfl, hf, bb0, bb1, gb⟩ := hrel
          clear B0 B1 GB
          have HF := Lib.hid hf
          have B0 := Lib.hid bb0
          have B1 := Lib.hid bb1
          have GB := Lib.hid gb
          clear hf bb0 bb1 gb
          have h3 : k = 0 ∨ k = 1 ∨ k = 2 ∨ k = 3 := by omega
          clear hk
          rcases h3 with rfl | rfl | rfl | rfl
          · obtain ⟨R1, hr1, _, hrc1, hrt1⟩ := SAR.out 0 (by decide)
            obtain ⟨R2, hr2, _, hrc2, hrt2⟩ := SBR.out 0 (by decide)
            obtain ⟨sv, hsv⟩ : ∃ sv, sameR (s.last.getD 0 (wrongU noV 0)) (t.last.getD 0 (wrongU noV 0)) = sv := ⟨_, rfl⟩
            have HSM : Hid (∀ wx, NewBut wr wx → Calls Try.prog 19 #[.agg R1.toArray, .agg R2.toArray] wx fun e w' => e = .returned (.bool sv) ∧ NewBut wr w') := Lib.hid fun wx h => (vr_Same _ _ R1 R2 sv wx hsv (hrt1.below (GB.out.trans (Below.mono h GB.out.size))) (hrt2.below (GB.out.trans (Below.mono h GB.out.size))) (HA2.out 0 (by decide)) (HB2.out 0 (by decide))).mono fun e w' ⟨q1, q2⟩ => ⟨q1, below_then q2 h⟩
            have P0 : Hid (∀ wx, NewBut wr wx → ∀ i v, R1[i]? = some v → wx.cell? ((⟨B, 4, none⟩ : Addr).add i) = some v) := Lib.hid fun wx h i v hv => by rw [Addr.add_mid]; exact (B0.out.below h B0.out.lt).cellOf (hrc1 i v hv)
            have P1 : Hid (∀ wx, NewBut wr wx → ∀ i v, R2[i]? = some v → wx.cell? ((⟨B + 1, 4, none⟩ : Addr).add i) = some v) := Lib.hid fun wx h i v hv => by rw [Addr.add_mid]; exact (B1.out.below h B1.out.lt).cellOf (hrc2 i v hv)
            have HSV := Lib.hid hsv
            have N1 : Hid ((Try.prog.info? 39).map (·.size) = some R1.length) := Lib.hid (by rw [size_rep, hr1])
            have N2 : Hid ((Try.prog.info? 39).map (·.size) = some R2.length) := Lib.hid (by rw [size_rep, hr2])
            clear hr1 hrc1 hrt1 hr2 hrc2 hrt2 hsv
            go_wp2_with fail
            refine region_quiet_tail (C := NewBut wr) 9 mixed (by kernel_rfl) (show Below _ _ _ from (Below.refl _ _).drew) ?_
            simp only [List.take_succ_cons, List.take_zero, List.drop_succ_cons, List.drop_zero]
            repeat (first | (refine wpQuiet_load_addr rfl 39 _ rfl ⟨B, 4, none⟩ rfl R1 P0.out Try.underlying39 rfl N1.out ?_) | (refine wpQuiet_load_addr rfl 39 _ rfl ⟨B + 1, 4, none⟩ rfl R2 P1.out Try.underlying39 rfl N2.out ?_) | go_big_quiet_step (fail) | (refine wpQuiet_step (fun K' hK' => ?_); go_simp; first | (refine hK' _ ?_; clear hK' K') | (refine ⟨_, fun _ _ => rfl, hK' _ ?_⟩; clear hK' K') | ((with_reducible refine ⟨_, fun wx hx => HSM.out wx hx, hK' _ ?_⟩); clear hK' K')))
            refine wpQuiet_nil ?_
            intro w7 hb7
            have D7 := Lib.hid (below_then hb7 GB.out)
            have E0 := Lib.hid (B0.out.below hb7 B0.out.lt)
            have E1 := Lib.hid (B1.out.below hb7 B1.out.lt)
            clear hb7
            cases sv with
            | true =>
              go_wp2
              go_roundw
              case rel => exact ⟨0 + 1, by omega, by go_num, (fun m hm => by
                rcases Nat.lt_or_ge m 0 with h | h
                · exact HF.out m h
                · obtain rfl : m = 0 := by omega
                  exact HSV.out), E0.out, E1.out, D7.out⟩
              case measure => (simp [intOf]; try omega)
            | false =>
              have HN := Lib.hid (equalS_no HR.out (fun h => by have h2 := h.2.2.2 0 (by decide); rw [HSV.out] at h2; cases h2))
              go_wp2
              go_ret
              exact ⟨congrArg (fun x => Ending.returned (.bool x)) HN.out, D7.out⟩
          · obtain ⟨R1, hr1, _, hrc1, hrt1⟩ := SAR.out 1 (by decide)
            obtain ⟨R2, hr2, _, hrc2, hrt2⟩ := SBR.out 1 (by decide)
            obtain ⟨sv, hsv⟩ : ∃ sv, sameR (s.last.getD 1 (wrongU noV 0)) (t.last.getD 1 (wrongU noV 0)) = sv := ⟨_, rfl⟩
            have HSM : Hid (∀ wx, NewBut wr wx → Calls Try.prog 19 #[.agg R1.toArray, .agg R2.toArray] wx fun e w' => e = .returned (.bool sv) ∧ NewBut wr w') := Lib.hid fun wx h => (vr_Same _ _ R1 R2 sv wx hsv (hrt1.below (GB.out.trans (Below.mono h GB.out.size))) (hrt2.below (GB.out.trans (Below.mono h GB.out.size))) (HA2.out 1 (by decide)) (HB2.out 1 (by decide))).mono fun e w' ⟨q1, q2⟩ => ⟨q1, below_then q2 h⟩
            have P0 : Hid (∀ wx, NewBut wr wx → ∀ i v, R1[i]? = some v → wx.cell? ((⟨B, 10, none⟩ : Addr).add i) = some v) := Lib.hid fun wx h i v hv => by rw [Addr.add_mid]; exact (B0.out.below h B0.out.lt).cellOf (hrc1 i v hv)
            have P1 : Hid (∀ wx, NewBut wr wx → ∀ i v, R2[i]? = some v → wx.cell? ((⟨B + 1, 10, none⟩ : Addr).add i) = some v) := Lib.hid fun wx h i v hv => by rw [Addr.add_mid]; exact (B1.out.below h B1.out.lt).cellOf (hrc2 i v hv)
            have HSV := Lib.hid hsv
            have N1 : Hid ((Try.prog.info? 39).map (·.size) = some R1.length) := Lib.hid (by rw [size_rep, hr1])
            have N2 : Hid ((Try.prog.info? 39).map (·.size) = some R2.length) := Lib.hid (by rw [size_rep, hr2])
            clear hr1 hrc1 hrt1 hr2 hrc2 hrt2 hsv
            go_wp2_with fail
            refine region_quiet_tail (C := NewBut wr) 9 mixed (by kernel_rfl) (show Below _ _ _ from (Below.refl _ _).drew) ?_
            simp only [List.take_succ_cons, List.take_zero, List.drop_succ_cons, List.drop_zero]
            repeat (first | (refine wpQuiet_load_addr rfl 39 _ rfl ⟨B, 10, none⟩ rfl R1 P0.out Try.underlying39 rfl N1.out ?_) | (refine wpQuiet_load_addr rfl 39 _ rfl ⟨B + 1, 10, none⟩ rfl R2 P1.out Try.underlying39 rfl N2.out ?_) | go_big_quiet_step (fail) | (refine wpQuiet_step (fun K' hK' => ?_); go_simp; first | (refine hK' _ ?_; clear hK' K') | (refine ⟨_, fun _ _ => rfl, hK' _ ?_⟩; clear hK' K') | ((with_reducible refine ⟨_, fun wx hx => HSM.out wx hx, hK' _ ?_⟩); clear hK' K')))
            refine wpQuiet_nil ?_
            intro w7 hb7
            have D7 := Lib.hid (below_then hb7 GB.out)
            have E0 := Lib.hid (B0.out.below hb7 B0.out.lt)
            have E1 := Lib.hid (B1.out.below hb7 B1.out.lt)
            clear hb7
            cases sv with
            | true =>
              go_wp2
              go_roundw
              case rel => exact ⟨1 + 1, by omega, by go_num, (fun m hm => by
                rcases Nat.lt_or_ge m 1 with h | h
                · exact HF.out m h
                · obtain rfl : m = 1 := by omega
                  exact HSV.out), E0.out, E1.out, D7.out⟩
              case measure => (simp [intOf]; try omega)
            | false =>
              have HN := Lib.hid (equalS_no HR.out (fun h => by have h2 := h.2.2.2 1 (by decide); rw [HSV.out] at h2; cases h2))
              go_wp2
              go_ret
              exact ⟨congrArg (fun x => Ending.returned (.bool x)) HN.out, D7.out⟩
          · obtain ⟨R1, hr1, _, hrc1, hrt1⟩ := SAR.out 2 (by decide)
            obtain ⟨R2, hr2, _, hrc2, hrt2⟩ := SBR.out 2 (by decide)
            obtain ⟨sv, hsv⟩ : ∃ sv, sameR (s.last.getD 2 (wrongU noV 0)) (t.last.getD 2 (wrongU noV 0)) = sv := ⟨_, rfl⟩
            have HSM : Hid (∀ wx, NewBut wr wx → Calls Try.prog 19 #[.agg R1.toArray, .agg R2.toArray] wx fun e w' => e = .returned (.bool sv) ∧ NewBut wr w') := Lib.hid fun wx h => (vr_Same _ _ R1 R2 sv wx hsv (hrt1.below (GB.out.trans (Below.mono h GB.out.size))) (hrt2.below (GB.out.trans (Below.mono h GB.out.size))) (HA2.out 2 (by decide)) (HB2.out 2 (by decide))).mono fun e w' ⟨q1, q2⟩ => ⟨q1, below_then q2 h⟩
            have P0 : Hid (∀ wx, NewBut wr wx → ∀ i v, R1[i]? = some v → wx.cell? ((⟨B, 16, none⟩ : Addr).add i) = some v) := Lib.hid fun wx h i v hv => by rw [Addr.add_mid]; exact (B0.out.below h B0.out.lt).cellOf (hrc1 i v hv)
            have P1 : Hid (∀ wx, NewBut wr wx → ∀ i v, R2[i]? = some v → wx.cell? ((⟨B + 1, 16, none⟩ : Addr).add i) = some v) := Lib.hid fun wx h i v hv => by rw [Addr.add_mid]; exact (B1.out.below h B1.out.lt).cellOf (hrc2 i v hv)
            have HSV := Lib.hid hsv
            have N1 : Hid ((Try.prog.info? 39).map (·.size) = some R1.length) := Lib.hid (by rw [size_rep, hr1])
            have N2 : Hid ((Try.prog.info? 39).map (·.size) = some R2.length) := Lib.hid (by rw [size_rep, hr2])
            clear hr1 hrc1 hrt1 hr2 hrc2 hrt2 hsv
            go_wp2_with fail
            refine region_quiet_tail (C := NewBut wr) 9 mixed (by kernel_rfl) (show Below _ _ _ from (Below.refl _ _).drew) ?_
            simp only [List.take_succ_cons, List.take_zero, List.drop_succ_cons, List.drop_zero]
            repeat (first | (refine wpQuiet_load_addr rfl 39 _ rfl ⟨B, 16, none⟩ rfl R1 P0.out Try.underlying39 rfl N1.out ?_) | (refine wpQuiet_load_addr rfl 39 _ rfl ⟨B + 1, 16, none⟩ rfl R2 P1.out Try.underlying39 rfl N2.out ?_) | go_big_quiet_step (fail) | (refine wpQuiet_step (fun K' hK' => ?_); go_simp; first | (refine hK' _ ?_; clear hK' K') | (refine ⟨_, fun _ _ => rfl, hK' _ ?_⟩; clear hK' K') | ((with_reducible refine ⟨_, fun wx hx => HSM.out wx hx, hK' _ ?_⟩); clear hK' K')))
            refine wpQuiet_nil ?_
            intro w7 hb7
            have D7 := Lib.hid (below_then hb7 GB.out)
            have E0 := Lib.hid (B0.out.below hb7 B0.out.lt)
            have E1 := Lib.hid (B1.out.below hb7 B1.out.lt)
            clear hb7
            cases sv with
            | true =>
              go_wp2
              go_roundw
              case rel => exact ⟨2 + 1, by omega, by go_num, (fun m hm => by
                rcases Nat.lt_or_ge m 2 with h | h
                · exact HF.out m h
                · obtain rfl : m = 2 := by omega
                  exact HSV.out), E0.out, E1.out, D7.out⟩
              case measure => (simp [intOf]; try omega)
            | false =>
              have HN := Lib.hid (equalS_no HR.out (fun h => by have h2 := h.2.2.2 2 (by decide); rw [HSV.out] at h2; cases h2))
              go_wp2
              go_ret
              exact ⟨congrArg (fun x => Ending.returned (.bool x)) HN.out, D7.out⟩
          · go_wp2
            go_ret
            have HY := (equalS_iff (a := s) (b := t)).2 ⟨L0.out, Q0.out, HV.out, HF.out⟩
            rw [HR.out] at HY
            exact ⟨congrArg (fun x => Ending.returned (.bool x)) HY.symm, GB.out⟩
end Go.Proofs.Ytogonbgelaehhaa
