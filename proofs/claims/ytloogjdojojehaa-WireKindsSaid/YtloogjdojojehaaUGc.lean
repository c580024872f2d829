/- Walk of the reference's Same of replies (stage 17). -/
import Derived.Test.YtloogjdojojehaaUGb
import Derived.Test.YtloogjdojojehaaHG
import Derived.BigFrame
import Derived.Test.YtloogjdojojehaaG4
namespace Go.Proofs.Ytloogjdojojehaa
open Go.RowKit
set_option linter.unusedVariables false

/-- are these replies the same? -/
def sameR (x y : RepU RawV) : Bool := decide (x.err = y.err) && decide (x.ids = y.ids) && sameV x.ver y.ver
theorem sameR_iff {x y : RepU RawV} : sameR x y = true ↔ x.err = y.err ∧ x.ids = y.ids ∧ sameV x.ver y.ver = true := by
  unfold sameR
  simp only [Bool.and_eq_true, decide_eq_true_eq, and_assoc]
theorem sameR_no {x y : RepU RawV} {r : Bool} (hr : sameR x y = r) (h : ¬ (x.err = y.err ∧ x.ids = y.ids ∧ sameV x.ver y.ver = true)) : false = r := by
  cases r with
  | false => rfl
  | true => exact absurd (sameR_iff.1 hr) h
theorem sameR_self (x : RepU RawV) : sameR x x = true := sameR_iff.2 ⟨rfl, rfl, same_self x.ver⟩
theorem listU_ext {a b : List Nat} (h : a.length = b.length) (he : ∀ k, k < a.length → a.getD k 0 = b.getD k 0) : a = b := by
  refine List.ext_getElem h fun k h1 h2 => ?_
  have := he k h1
  rwa [List.getD_eq_getElem?_getD, List.getD_eq_getElem?_getD, List.getElem?_eq_getElem h1, List.getElem?_eq_getElem h2] at this
section
variable {P : Program} {ops : Array Oper} {rest : List Oper} {o : Oper} {a : Act} {w : World} {Q : Exit → Act → World → Prop}
theorem wpList_load_addrV (hgd : Region.wanted o (yielded ops a.tmps) = true) (ty : TypeId) (x : Operand) (ho : o.op = .load ty x)
    (p : Addr) (hx : a.eval x = .pointer (some p)) (cs : List Value) {d : TypeDesc} (hc : ∀ j v, cs[j]? = some v → w.cell? (p.add j) = some v)
    (hu : P.underlying ty = some d) (hd : d.isRow = true) (hi : (P.info? ty).map (·.size) = some cs.length)
    (h : wpList P ops Q rest (a.put o.dst (.agg cs.toArray)) w) : wpList P ops Q (o :: rest) a w :=
  BigFrame.wpList_want hgd fun _ hK => by
    unfold Oper.wp execOp
    simp only [ho, hx, Instr.loadAt, Instr.sureAddr, Sem.run_bind, Sem.run_pure, Result.andThen_ok, run_loadVar_addr w p ty cs d hc hu hd hi]
    exact hK _ _ h
end
/-- what is known of a reply that is compared -/
def RepOk (x : RepU RawV) : Prop := x.ids.length ≤ 1000000 ∧ x.ver.ok ∧ x.ver.bl.length ≤ 1000000 ∧ x.ver.ns.length ≤ 1000000 ∧ x.ver.zs.length ≤ 1000000
set_option maxRecDepth 100000 in
set_option maxHeartbeats 1000000 in
theorem vr_Same (x y : RepU RawV) (R Q : List Value) (r : Bool) (w : World) (hr : sameR x y = r) (hA : RepOkV w R x) (hB : RepOkV w Q y) (ha : RepOk x) (hb : RepOk y) :
    Calls Try.prog 30 #[.agg R.toArray, .agg Q.toArray] w fun e w' => e = .returned (.bool r) ∧ Below w.heap.size w w' := by
  obtain ⟨v1, V, rfl, ⟨p, c, rfl⟩, sa, va⟩ := hA
  obtain ⟨v2, U, rfl, ⟨q, d, rfl⟩, sb, vb⟩ := hB
  obtain ⟨ex, lx, vx⟩ := x
  obtain ⟨ey, ly, vy⟩ := y
  dsimp only at *
  obtain ⟨hl1, ha1, ha2, ha3, ha4⟩ := ha
  obtain ⟨hl2, hb1, _⟩ := hb
  dsimp only at *
  have hVl := va.len
  have hUl := vb.len
  obtain ⟨B, hBB⟩ : ∃ B, w.heap.size = B := ⟨_, rfl⟩
  obtain ⟨CA, hCA⟩ : ∃ CA : List Value, .int .i64 (ex : Int) :: .slice p lx.length c :: V = CA := ⟨_, rfl⟩
  obtain ⟨CB, hCB⟩ : ∃ CB : List Value, .int .i64 (ey : Int) :: .slice q ly.length d :: U = CB := ⟨_, rfl⟩
  have a0 : CA[0]? = some (.int .i64 (ex : Int)) := by rw [← hCA]; rfl
  have a1 : CA[1]? = some (.slice p lx.length c) := by rw [← hCA]; rfl
  have a2 : ∀ j x, V[j]? = some x → CA[2 + j]? = some x := fun j x h => by rw [← hCA, Nat.add_comm]; exact h
  have b0 : CB[0]? = some (.int .i64 (ey : Int)) := by rw [← hCB]; rfl
  have b1 : CB[1]? = some (.slice q ly.length d) := by rw [← hCB]; rfl
  have b2 : ∀ j x, U[j]? = some x → CB[2 + j]? = some x := fun j x h => by rw [← hCB, Nat.add_comm]; exact h
  rw [hCA, hCB]
  clear hCA hCB
  have k0 := (Blk.newAt w B hBB 32 (c := CA.toArray) CA rfl).alloc (.cells CB.toArray 32)
  have k1 := Blk.newAt (w.alloc (.cells CA.toArray 32)) (B + 1) (by simp [hBB]) 32 (c := CB.toArray) CB rfl
  have kb := ((Below.refl w.heap.size w).alloc (Nat.le_refl _) (.cells CA.toArray 32)).alloc (by simp) (.cells CB.toArray 32)
  have K0 := Lib.hid k0
  have K1 := Lib.hid k1
  have KB := Lib.hid kb
  have HR := Lib.hid hr
  have SA := Lib.hid sa
  have SB := Lib.hid sb
  have A1 := Lib.hid a1
  have B1 := Lib.hid b1
  have ca0 := k0.cellOf a0
  have ca1 := k0.cellOf a1
  have cb0 := k1.cellOf b0
  have cb1 := k1.cellOf b1
  have HVA : Hid (∀ j x, V[j]? = some x → ((w.alloc (.cells CA.toArray 32)).alloc (.cells CB.toArray 32)).cell? ((⟨B, 2, none⟩ : Addr).add j) = some x) := Lib.hid fun j x h => by rw [Addr.add_mid]; exact k0.cellOf (a2 j x h)
  have HVB : Hid (∀ j x, U[j]? = some x → ((w.alloc (.cells CA.toArray 32)).alloc (.cells CB.toArray 32)).cell? ((⟨B + 1, 2, none⟩ : Addr).add j) = some x) := Lib.hid fun j x h => by rw [Addr.add_mid]; exact k1.cellOf (b2 j x h)
  have HSM : Hid (∀ wx, Below w.heap.size w wx → Calls Try.prog 23 #[.agg V.toArray, .agg U.toArray] wx fun e w' => e = .returned (.bool (sameV vx vy)) ∧ Below wx.heap.size wx w') := Lib.hid fun wx h => hr_Same vx vy _ _ (sameV vx vy) wx rfl (va.below h) (vb.below h) ha1 hb1 ha2 ha3 ha4
  have HVL : Hid ((Try.prog.info? 30).map (·.size) = some V.length) := Lib.hid (by rw [size_ver, hVl])
  have HUL : Hid ((Try.prog.info? 30).map (·.size) = some U.length) := Lib.hid (by rw [size_ver, hUl])
  clear k0 k1 kb a0 a1 a2 b0 b1 b2 sa sb va vb hVl hUl ha1 ha2 ha3 ha4 hb1 hr
  by_cases q0 : ex = ey
  rotate_left
  · have HN := Lib.hid (sameR_no HR.out (fun h => q0 h.1))
    have e0 : ((ex : Int) != (ey : Int)) = true := by simp; omega
    clear q0
    go_enter Try.func30, Try.ntmps30
    go_wp2
    go_ret
    exact ⟨congrArg (fun x => Ending.returned (.bool x)) HN.out, KB.out⟩
  subst q0
  by_cases q1 : lx.length = ly.length
  rotate_left
  · have HN := Lib.hid (sameR_no HR.out (fun h => q1 (congrArg List.length h.2.1)))
    have e1 : ((lx.length : Int) != (ly.length : Int)) = true := by simp; omega
    clear q1
    go_enter Try.func30, Try.ntmps30
    go_wp2
    go_ret
    exact ⟨congrArg (fun x => Ending.returned (.bool x)) HN.out, KB.out⟩
  have L1 := Lib.hid q1
  rw [← q1] at B1 cb1
  clear q1
  obtain ⟨sv, hsv⟩ : ∃ sv, sameV vx vy = sv := ⟨_, rfl⟩
  rw [hsv] at HSM
  have HSV := Lib.hid hsv
  clear hsv
  go_enter Try.func30, Try.ntmps30
  go_wp2_with (first | (refine wpList_load_addrV rfl 30 _ rfl ⟨B, 2, none⟩ rfl V HVA.out Try.underlying30 rfl HVL.out ?_) | (refine wpList_load_addrV rfl 30 _ rfl ⟨B + 1, 2, none⟩ rfl U HVB.out Try.underlying30 rfl HUL.out ?_))
  refine (HSM.out _ KB.out).mono ?_
  rintro e w3 ⟨rfl, hb3⟩
  have k0 := K0.out.below hb3 K0.out.lt
  have k1 := K1.out.below hb3 K1.out.lt
  have KB3 := Lib.hid (below_then hb3 KB.out)
  have K03 := Lib.hid k0
  have K13 := Lib.hid k1
  clear ca0 ca1 cb0 cb1 K0 K1 KB HVA HVB HSM hb3 k0 k1 HVL HUL
  cases sv with
  | false =>
    have HN := Lib.hid (sameR_no HR.out (fun h => by have h2 := h.2.2; rw [HSV.out] at h2; cases h2))
    go_wp2
    go_ret
    exact ⟨congrArg (fun x => Ending.returned (.bool x)) HN.out, KB3.out⟩
  | true =>
    go_wp2
    go_loopw [5] (fun i wr => ∃ j : Nat, j ≤ lx.length ∧ i = .int .i64 (j : Int) ∧ (∀ k, k < j → lx.getD k 0 = ly.getD k 0) ∧ Blk wr B 32 CA ∧ Blk wr (B + 1) 32 CB ∧ Below w.heap.size w wr) (fun i _ => lx.length - (intOf i).toNat)
    case atStart => exact ⟨0, by omega, rfl, (fun k h => by omega), K03.out, K13.out, KB3.out⟩
    case round =>
      obtain ⟨j, hj, rfl, hf, bb0, bb1, gb⟩ := hrel
      clear K03 K13 KB3
      have HF := Lib.hid hf
      have B0 := Lib.hid bb0
      have B1' := Lib.hid bb1
      have GB := Lib.hid gb
      have x0 := bb0.cellOf A1.out
      have x1 := bb1.cellOf B1.out
      clear hf bb0 bb1 gb
      by_cases hlt : j < lx.length
      · have hltb : j < ly.length := by rw [← L1.out]; exact hlt
        have dj : (j : Int) < (lx.length : Int) := by omega
        obtain ⟨a1, rfl, y0⟩ := SlU.cell (SA.out.below GB.out) hlt
        obtain ⟨a2, rfl, y1⟩ := SlU.cell (l := ly) (j := j) (SB.out.below GB.out) hltb
        by_cases hq : lx.getD j 0 = ly.getD j 0
        · have HQ := Lib.hid hq
          rw [← hq] at y1
          clear hq
          generalize lx.getD j 0 = X at y0 y1
          go_wp2_with fail
          go_quiet (fail)
          go_wp2
          go_roundw
          case rel => exact ⟨j + 1, by omega, by go_num, (fun k hk => by
            rcases Nat.lt_or_ge k j with h | h
            · exact HF.out k h
            · obtain rfl : k = j := by omega
              exact HQ.out), B0.out.drewN _, B1'.out.drewN _, below_drewN GB.out _⟩
          case measure => (simp [intOf]; try omega)
        · have HN := Lib.hid (sameR_no HR.out (fun h => hq (by rw [show lx = ly from h.2.1])))
          generalize lx.getD j 0 = X at *
          generalize ly.getD j 0 = Y at *
          have hne : ((X : Int) != (Y : Int)) = true := by simp; omega
          clear hq
          go_wp2_with fail
          go_quiet (fail)
          go_wp2
          go_ret
          exact ⟨congrArg (fun x => Ending.returned (.bool x)) HN.out, below_drewN GB.out _⟩
      · obtain rfl : j = lx.length := by omega
        have Q1 := Lib.hid (listU_ext L1.out HF.out)
        clear HF hj hlt
        go_wp2
        go_ret
        have HY := (sameR_iff (x := ⟨ex, lx, vx⟩) (y := ⟨ex, ly, vy⟩)).2 ⟨rfl, Q1.out, HSV.out⟩
        rw [HR.out] at HY
        exact ⟨congrArg (fun x => Ending.returned (.bool x)) HY.symm, GB.out⟩
end Go.Proofs.Ytloogjdojojehaa
namespace Go.Proofs.Ytloogjdojojehaa
open Go.RowKit
set_option linter.unusedVariables false

theorem sizeOf_u32q (w : World) : (sizeOf 22).run Try.prog w = .ok 1 w := by kernel_rfl
theorem nn_iff {x y : List Nat} : nn x = nn y ↔ x = y := by
  constructor
  · intro h
    refine List.ext_getElem (by have := congrArg List.length h; rwa [nn_length, nn_length] at this) fun k h1 h2 => ?_
    have := congrArg (fun l => l[k]?) h
    simp [nn, h1, h2] at this
    omega
  · exact fun h => by rw [h]
/-- are these states the same? -/
def equalS (a b : StU RawV) : Bool := decide (a.vers.length = b.vers.length) && decide (a.seqs = b.seqs) && ((List.range a.vers.length).all fun i => sameV (a.vers.getD i noV) (b.vers.getD i noV)) && ((List.range 3).all fun i => sameR (a.last.getD i (wrongU noV 0)) (b.last.getD i (wrongU noV 0)))
theorem equalS_iff {a b : StU RawV} : equalS a b = true ↔ a.vers.length = b.vers.length ∧ a.seqs = b.seqs ∧ (∀ i, i < a.vers.length → sameV (a.vers.getD i noV) (b.vers.getD i noV) = true) ∧ (∀ i, i < 3 → sameR (a.last.getD i (wrongU noV 0)) (b.last.getD i (wrongU noV 0)) = true) := by
  unfold equalS
  simp only [Bool.and_eq_true, decide_eq_true_eq, List.all_eq_true, List.mem_range, and_assoc]
theorem equalS_no {a b : StU RawV} {r : Bool} (hr : equalS a b = r) (h : ¬ (a.vers.length = b.vers.length ∧ a.seqs = b.seqs ∧ (∀ i, i < a.vers.length → sameV (a.vers.getD i noV) (b.vers.getD i noV) = true) ∧ (∀ i, i < 3 → sameR (a.last.getD i (wrongU noV 0)) (b.last.getD i (wrongU noV 0)) = true))) : false = r := by
  cases r with
  | false => rfl
  | true => exact absurd (equalS_iff.1 hr) h
theorem equalS_self (a : StU RawV) : equalS a a = true := equalS_iff.2 ⟨rfl, rfl, fun i _ => same_self _, fun i _ => sameR_self _⟩
/-- what is known of a version that is compared -/
def VerOkC (a : RawV) : Prop := a.ok ∧ a.bl.length ≤ 1000000 ∧ a.ns.length ≤ 1000000 ∧ a.zs.length ≤ 1000000
def StOkC (s : StU RawV) : Prop := s.vers.length ≤ 1000000 ∧ (∀ i, i < s.vers.length → VerOkC (s.vers.getD i noV)) ∧ ∀ i, i < 3 → RepOk (s.last.getD i (wrongU noV 0))
theorem st_seqs {w : World} {v : Value} {s : StU RawV} (h : StTold w v s) : s.seqs.length = 3 := by
  obtain ⟨vv, s0, s1, s2, r0, r1, r2, x0, x1, x2, _, _, hq, _⟩ := h
  rw [hq]; rfl
theorem seqs_cells {S : List Value} {l : List Nat} (hl : l.length = 3) (h : ∀ j, j < 3 → S[1 + j]? = some (.int .u32 ((l.getD j 0 : Nat) : Int))) : ∀ j x, (ints .u32 (nn l))[j]? = some x → S[1 + j]? = some x := fun j x hx => by
  have hj : j < 3 := by have := (List.getElem?_eq_some_iff.1 hx).1; rwa [ints_length, nn_length, hl] at this
  rw [h j hj, ← hx]
  simp [ints, nn, hl, hj]
end Go.Proofs.Ytloogjdojojehaa
