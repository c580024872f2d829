/- Walk of the reference's Same of versions. -/
import Derived.Test.YtahfjfhiejhddaaHRMy
import Derived.Test.YtahfjfhiejhddaaFB
namespace Go.Proofs.Ytahfjfhiejhddaa
open Go.RowKit
set_option linter.unusedVariables false

/-- are these the same? -/
def sameV (a b : RawV) : Bool := decide (a.id = b.id) && decide (a.bl = b.bl) && decide (a.ns = b.ns) && decide (a.zs = b.zs)
theorem same_iff {a b : RawV} : sameV a b = true ↔ a.id = b.id ∧ a.bl = b.bl ∧ a.ns = b.ns ∧ a.zs = b.zs := by
  unfold sameV
  simp only [Bool.and_eq_true, decide_eq_true_eq, and_assoc]
theorem same_self (a : RawV) : sameV a a = true := same_iff.2 ⟨rfl, rfl, rfl, rfl⟩
theorem same_no {a b : RawV} {r : Bool} (hr : sameV a b = r) (h : ¬ (a.id = b.id ∧ a.bl = b.bl ∧ a.ns = b.ns ∧ a.zs = b.zs)) : false = r := by
  cases r with
  | false => rfl
  | true => exact absurd (same_iff.1 hr) h
theorem listN_ext {a b : List (List Nat)} (h : a.length = b.length) (he : ∀ k, k < a.length → a.getD k [] = b.getD k []) : a = b := by
  refine List.ext_getElem h fun k h1 h2 => ?_
  have := he k h1
  rwa [List.getD_eq_getElem?_getD, List.getD_eq_getElem?_getD, List.getElem?_eq_getElem h1, List.getElem?_eq_getElem h2] at this
theorem listZ_ext {a b : List Int} (h : a.length = b.length) (he : ∀ k, k < a.length → a.getD k 0 = b.getD k 0) : a = b := by
  refine List.ext_getElem h fun k h1 h2 => ?_
  have := he k h1
  rwa [List.getD_eq_getElem?_getD, List.getD_eq_getElem?_getD, List.getElem?_eq_getElem h1, List.getElem?_eq_getElem h2] at this
set_option maxRecDepth 100000 in
set_option maxHeartbeats 4000000 in
theorem hr_Same (a b : RawV) (va vb : Value) (r : Bool) (w : World) (hr : sameV a b = r) (hA : VV w va a) (hB : VV w vb b) (ha : a.ok) (hb : b.ok) (h1 : a.bl.length ≤ 1000000) (h2 : a.ns.length ≤ 1000000) (h3 : a.zs.length ≤ 1000000) :
    Calls Try.prog 17 #[va, vb] w fun e w' => e = .returned (.bool r) ∧ Below w.heap.size w w' := by
  obtain ⟨v1, v2, v3, rfl, ⟨pb, cb, rfl⟩, ⟨pn, cn, rfl⟩, ⟨pz, cz, rfl⟩, sb, sn, sz⟩ := hA
  obtain ⟨u1, u2, u3, rfl, ⟨qb, db, rfl⟩, ⟨qn, dn, rfl⟩, ⟨qz, dz, rfl⟩, tb, tn, tz⟩ := hB
  obtain ⟨ia, la, na, za⟩ := a
  obtain ⟨ib, lb, nb, zb⟩ := b
  dsimp only at *
  obtain ⟨B, hBB⟩ : ∃ B, w.heap.size = B := ⟨_, rfl⟩
  have HBE := Lib.hid hBB
  have k0 := (Blk.newAt w B hBB 27 (c := (cellsV ia (.slice pb la.length cb) (.slice pn na.length cn) (.slice pz za.length cz)).toArray) _ rfl).alloc (.cells (cellsV ib (.slice qb lb.length db) (.slice qn nb.length dn) (.slice qz zb.length dz)).toArray 27)
  have k1 := Blk.newAt (w.alloc (.cells (cellsV ia (.slice pb la.length cb) (.slice pn na.length cn) (.slice pz za.length cz)).toArray 27)) (B + 1) (by simp [hBB]) 27 (c := (cellsV ib (.slice qb lb.length db) (.slice qn nb.length dn) (.slice qz zb.length dz)).toArray) _ rfl
  have KB := Lib.hid (((Below.refl w.heap.size w).alloc (Nat.le_refl _) (.cells (cellsV ia (.slice pb la.length cb) (.slice pn na.length cn) (.slice pz za.length cz)).toArray 27)).alloc (by simp) (.cells (cellsV ib (.slice qb lb.length db) (.slice qn nb.length dn) (.slice qz zb.length dz)).toArray 27))
  have HR := Lib.hid hr
  have HA := Lib.hid ha
  have HB := Lib.hid hb
  have SB := Lib.hid sb
  have SN := Lib.hid sn
  have SZ := Lib.hid sz
  have TB := Lib.hid tb
  have TN := Lib.hid tn
  have TZ := Lib.hid tz
  have K0 := Lib.hid k0
  have K1 := Lib.hid k1
  have ca0 : ((w.alloc (.cells (cellsV ia (.slice pb la.length cb) (.slice pn na.length cn) (.slice pz za.length cz)).toArray 27)).alloc (.cells (cellsV ib (.slice qb lb.length db) (.slice qn nb.length dn) (.slice qz zb.length dz)).toArray 27)).cell? ⟨B, 0, none⟩ = some (.int .u32 (ia : Int)) := by rw [k0.cell]; rfl
  have ca1 : ((w.alloc (.cells (cellsV ia (.slice pb la.length cb) (.slice pn na.length cn) (.slice pz za.length cz)).toArray 27)).alloc (.cells (cellsV ib (.slice qb lb.length db) (.slice qn nb.length dn) (.slice qz zb.length dz)).toArray 27)).cell? ⟨B, 1, none⟩ = some (.slice pb la.length cb) := by rw [k0.cell]; rfl
  have ca2 : ((w.alloc (.cells (cellsV ia (.slice pb la.length cb) (.slice pn na.length cn) (.slice pz za.length cz)).toArray 27)).alloc (.cells (cellsV ib (.slice qb lb.length db) (.slice qn nb.length dn) (.slice qz zb.length dz)).toArray 27)).cell? ⟨B, 2, none⟩ = some (.slice pn na.length cn) := by rw [k0.cell]; rfl
  have ca3 : ((w.alloc (.cells (cellsV ia (.slice pb la.length cb) (.slice pn na.length cn) (.slice pz za.length cz)).toArray 27)).alloc (.cells (cellsV ib (.slice qb lb.length db) (.slice qn nb.length dn) (.slice qz zb.length dz)).toArray 27)).cell? ⟨B, 3, none⟩ = some (.slice pz za.length cz) := by rw [k0.cell]; rfl
  have cb0 : ((w.alloc (.cells (cellsV ia (.slice pb la.length cb) (.slice pn na.length cn) (.slice pz za.length cz)).toArray 27)).alloc (.cells (cellsV ib (.slice qb lb.length db) (.slice qn nb.length dn) (.slice qz zb.length dz)).toArray 27)).cell? ⟨B + 1, 0, none⟩ = some (.int .u32 (ib : Int)) := by rw [k1.cell]; rfl
  have cb1 : ((w.alloc (.cells (cellsV ia (.slice pb la.length cb) (.slice pn na.length cn) (.slice pz za.length cz)).toArray 27)).alloc (.cells (cellsV ib (.slice qb lb.length db) (.slice qn nb.length dn) (.slice qz zb.length dz)).toArray 27)).cell? ⟨B + 1, 1, none⟩ = some (.slice qb lb.length db) := by rw [k1.cell]; rfl
  have cb2 : ((w.alloc (.cells (cellsV ia (.slice pb la.length cb) (.slice pn na.length cn) (.slice pz za.length cz)).toArray 27)).alloc (.cells (cellsV ib (.slice qb lb.length db) (.slice qn nb.length dn) (.slice qz zb.length dz)).toArray 27)).cell? ⟨B + 1, 2, none⟩ = some (.slice qn nb.length dn) := by rw [k1.cell]; rfl
  have cb3 : ((w.alloc (.cells (cellsV ia (.slice pb la.length cb) (.slice pn na.length cn) (.slice pz za.length cz)).toArray 27)).alloc (.cells (cellsV ib (.slice qb lb.length db) (.slice qn nb.length dn) (.slice qz zb.length dz)).toArray 27)).cell? ⟨B + 1, 3, none⟩ = some (.slice qz zb.length dz) := by rw [k1.cell]; rfl
  clear k0 k1 sb sn sz tb tn tz ha hb hr
  by_cases q0 : ia = ib
  rotate_left
  · have HN := Lib.hid (same_no HR.out (fun h => q0 h.1))
    have e0 : ((ia : Int) != (ib : Int)) = true := by simp; omega
    clear q0 h1 h2 h3
    go_enter Try.func17, Try.ntmps17
    go_wp2
    go_ret
    exact ⟨congrArg (fun x => Ending.returned (.bool x)) HN.out, KB.out⟩
  subst q0
  by_cases q1 : la.length = lb.length
  rotate_left
  · have HN := Lib.hid (same_no HR.out (fun h => q1 (congrArg List.length h.2.1)))
    have e1 : ((la.length : Int) != (lb.length : Int)) = true := by simp; omega
    clear q1 h1 h2 h3
    go_enter Try.func17, Try.ntmps17
    go_wp2
    go_ret
    exact ⟨congrArg (fun x => Ending.returned (.bool x)) HN.out, KB.out⟩
  have L1 := Lib.hid q1
  rw [← q1] at K0 K1 KB ca0 ca1 ca2 ca3 cb0 cb1 cb2 cb3 ⊢
  clear q1
  by_cases q2 : na.length = nb.length
  rotate_left
  · have HN := Lib.hid (same_no HR.out (fun h => q2 (congrArg List.length h.2.2.1)))
    have e2 : ((na.length : Int) != (nb.length : Int)) = true := by simp; omega
    clear q2 h1 h2 h3
    go_enter Try.func17, Try.ntmps17
    go_wp2
    go_ret
    exact ⟨congrArg (fun x => Ending.returned (.bool x)) HN.out, KB.out⟩
  have L2 := Lib.hid q2
  rw [← q2] at K0 K1 KB ca0 ca1 ca2 ca3 cb0 cb1 cb2 cb3 ⊢
  clear q2
  by_cases q3 : za.length = zb.length
  rotate_left
  · have HN := Lib.hid (same_no HR.out (fun h => q3 (congrArg List.length h.2.2.2)))
    have e3 : ((za.length : Int) != (zb.length : Int)) = true := by simp; omega
    clear q3 h1 h2 h3
    go_enter Try.func17, Try.ntmps17
    go_wp2
    go_ret
    exact ⟨congrArg (fun x => Ending.returned (.bool x)) HN.out, KB.out⟩
  have L3 := Lib.hid q3
  rw [← q3] at K0 K1 KB ca0 ca1 ca2 ca3 cb0 cb1 cb2 cb3 ⊢
  clear q3
  go_enter Try.func17, Try.ntmps17
  go_wp2
  go_loopw [5] (fun i wr => ∃ j : Nat, j ≤ la.length ∧ i = .int .i64 (j : Int) ∧ (∀ k, k < j → la.getD k [] = lb.getD k []) ∧ Blk wr B 27 (cellsV ia (.slice pb la.length cb) (.slice pn na.length cn) (.slice pz za.length cz)) ∧ Blk wr (B + 1) 27 (cellsV ia (.slice qb la.length db) (.slice qn na.length dn) (.slice qz za.length dz)) ∧ Below w.heap.size w wr) (fun i _ => la.length - (intOf i).toNat)
  case atStart => exact ⟨0, by omega, rfl, (fun k h => by omega), K0.out, K1.out, KB.out⟩
  case round =>
    obtain ⟨j, hj, rfl, hf, b0, b1, gb⟩ := hrel
    clear K0 K1 KB
    have HF := Lib.hid hf
    have B0 := Lib.hid b0
    have B1 := Lib.hid b1
    have GB := Lib.hid gb
    have x0 := b0.cell 1
    have x1 := b1.cell 1
    simp only [cellsV, List.getElem?_cons_zero, List.getElem?_cons_succ] at x0 x1
    clear hf b0 b1 gb
    by_cases hlt : j < la.length
    · have hltb : j < lb.length := by rw [← L1.out]; exact hlt
      have dj : (j : Int) < (la.length : Int) := by omega
      obtain ⟨a1, rfl, _⟩ := (SB.out.below GB.out).row (rowsH_at hlt)
      obtain ⟨a2, rfl, _⟩ := (TB.out.below GB.out).row (rowsH_at hltb)
      have R0 : Hid (∀ wx, (∃ m, wx = wr.drewN m) → ∀ i v, (rowH (la.getD j []))[i]? = some v → wx.cell? ((a1.add (j * 32)).add i) = some v) := Lib.hid fun wx hx => by
        obtain ⟨k, rfl⟩ := hx
        obtain ⟨a', e, hc⟩ := (SB.out.below (below_drewN GB.out k)).row (rowsH_at hlt)
        cases e
        exact hc
      have R1 : Hid (∀ wx, (∃ m, wx = wr.drewN m) → ∀ i v, (rowH (lb.getD j []))[i]? = some v → wx.cell? ((a2.add (j * 32)).add i) = some v) := Lib.hid fun wx hx => by
        obtain ⟨k, rfl⟩ := hx
        obtain ⟨a', e, hc⟩ := (TB.out.below (below_drewN GB.out k)).row (rowsH_at hltb)
        cases e
        exact hc
      have hx1 := (HA.out.2.1 _ (getN_mem hlt)).1
      have hx2 := (HB.out.2.1 _ (getN_mem hltb)).1
      obtain ⟨eq, heq⟩ : ∃ eq : Bool, (nn (la.getD j []) == nn (lb.getD j [])) = !eq := ⟨!(nn (la.getD j []) == nn (lb.getD j [])), by simp⟩
      have hne := neq_hash (la.getD j []) (lb.getD j []) hx1 hx2 eq heq
      have hl0 : (rowH (la.getD j [])).length = 32 := rowH_len hx1
      have hl1 : (rowH (lb.getD j [])).length = 32 := rowH_len hx2
      have HEQ : Hid (eq = false ↔ la.getD j [] = lb.getD j []) := Lib.hid (by
        cases eq with
        | false => exact ⟨fun _ => nn_inj (by simpa using heq), fun _ => rfl⟩
        | true => exact ⟨fun h => (by cases h), fun h => by rw [h] at heq; simp at heq⟩)
      have hne2 : ∀ w, (binOp .neq 44 (.agg (rowH (la.getD j [])).toArray) (.agg (rowH (lb.getD j [])).toArray)).run Try.prog w = .ok (.bool eq) w := hne
      generalize rowH (la.getD j []) = X at *
      generalize rowH (lb.getD j []) = Y at *
      clear hne heq hx1 hx2
      have P0 : Hid (∀ wx, (∃ m, wx = wr.drewN m) → wx.cell? ⟨B, 1, none⟩ = some (.slice (some a1) la.length cb)) := Lib.hid fun wx hx => by
        obtain ⟨k, rfl⟩ := hx
        exact x0
      have P1 : Hid (∀ wx, (∃ m, wx = wr.drewN m) → wx.cell? ⟨B + 1, 1, none⟩ = some (.slice (some a2) la.length db)) := Lib.hid fun wx hx => by
        obtain ⟨k, rfl⟩ := hx
        exact x1
      go_wp2_with fail
      refine region_drew_tail 10 mixed (by kernel_rfl) ?_
      simp only [List.take_succ_cons, List.take_zero, List.drop_succ_cons, List.drop_zero]
      repeat (first | (refine wpQuiet_load_addr rfl 44 _ rfl (a1.add (j * 32)) rfl X R0.out Try.underlying44 rfl (by rw [size_hashV, hl0]) ?_) | (refine wpQuiet_load_addr rfl 44 _ rfl (a2.add (j * 32)) rfl Y R1.out Try.underlying44 rfl (by rw [size_hashV, hl1]) ?_) | (refine wpQuiet_load_one rfl 23 _ rfl ⟨B, 1, none⟩ rfl _ P0.out Try.underlying23 rfl ?_) | (refine wpQuiet_load_one rfl 23 _ rfl ⟨B + 1, 1, none⟩ rfl _ P1.out Try.underlying23 rfl ?_) | go_big_quiet_step (fail) | (refine wpQuiet_step (fun K' hK' => ?_); go_simp; first | (refine hK' _ ?_; clear hK' K') | (refine ⟨_, fun _ _ => rfl, hK' _ ?_⟩; clear hK' K')))
      refine wpQuiet_nil ?_
      rintro w7 ⟨k7, rfl⟩
      have D7 := Lib.hid (below_drewN GB.out k7)
      have E0 := Lib.hid (B0.out.drewN k7)
      have E1 := Lib.hid (B1.out.drewN k7)
      cases eq with
      | false =>
        have hq := HEQ.out.1 rfl
        have HQ := Lib.hid hq
        clear hq
        go_wp2
        go_roundw
        case rel => exact ⟨j + 1, by omega, by go_num, (fun k hk => by
          rcases Nat.lt_or_ge k j with h | h
          · exact HF.out k h
          · obtain rfl : k = j := by omega
            exact HQ.out), E0.out, E1.out, D7.out⟩
        case measure => (simp [intOf]; try omega)
      | true =>
        have HN := Lib.hid (same_no HR.out (fun h => by have h2 := HEQ.out.2 (by rw [show la = lb from h.2.1]); cases h2))
        go_wp2
        go_ret
        exact ⟨congrArg (fun x => Ending.returned (.bool x)) HN.out, D7.out⟩
    · obtain rfl : j = la.length := by omega
      have Q1 := Lib.hid (listN_ext L1.out HF.out)
      clear HF hj hlt
      go_wp2
      go_loopw [6] (fun i wr => ∃ j : Nat, j ≤ na.length ∧ i = .int .i64 (j : Int) ∧ (∀ k, k < j → na.getD k [] = nb.getD k []) ∧ Blk wr B 27 (cellsV ia (.slice pb la.length cb) (.slice pn na.length cn) (.slice pz za.length cz)) ∧ Blk wr (B + 1) 27 (cellsV ia (.slice qb la.length db) (.slice qn na.length dn) (.slice qz za.length dz)) ∧ Below w.heap.size w wr) (fun i _ => na.length - (intOf i).toNat)
      case atStart => exact ⟨0, by omega, rfl, (fun k h => by omega), B0.out, B1.out, GB.out⟩
      case round =>
        obtain ⟨j, hj, rfl, hf, b0, b1, gb⟩ := hrel
        clear B0 B1 GB
        have HF := Lib.hid hf
        have B0 := Lib.hid b0
        have B1 := Lib.hid b1
        have GB := Lib.hid gb
        have x0 := b0.cell 2
        have x1 := b1.cell 2
        simp only [cellsV, List.getElem?_cons_zero, List.getElem?_cons_succ] at x0 x1
        clear hf b0 b1 gb
        by_cases hlt : j < na.length
        · have hltb : j < nb.length := by rw [← L2.out]; exact hlt
          have dj : (j : Int) < (na.length : Int) := by omega
          obtain ⟨a1, rfl, _⟩ := SlS.cell (SN.out.below GB.out) hlt
          obtain ⟨a2, rfl, _⟩ := SlS.cell (TN.out.below GB.out) hltb
          have R0 : Hid (∀ wx, (∃ m, wx = wr.drewN m) → wx.cell? (a1.add j) = some (.string (tx (na.getD j [])))) := Lib.hid fun wx hx => by
            obtain ⟨k, rfl⟩ := hx
            obtain ⟨a', e, hc⟩ := SlS.cell (SN.out.below (below_drewN GB.out k)) hlt
            cases e
            exact hc
          have R1 : Hid (∀ wx, (∃ m, wx = wr.drewN m) → wx.cell? (a2.add j) = some (.string (tx (nb.getD j [])))) := Lib.hid fun wx hx => by
            obtain ⟨k, rfl⟩ := hx
            obtain ⟨a', e, hc⟩ := SlS.cell (TN.out.below (below_drewN GB.out k)) hltb
            cases e
            exact hc
          have hy1 := HA.out.2.2.1 _ (getN_mem hlt)
          have hy2 := HB.out.2.2.1 _ (getN_mem hltb)
          obtain ⟨eq, heq⟩ : ∃ eq : Bool, ((tx (na.getD j [])).toList == (tx (nb.getD j [])).toList) = eq := ⟨_, rfl⟩
          have HEQ : Hid (eq = true ↔ na.getD j [] = nb.getD j []) := Lib.hid (by
            by_cases h : na.getD j [] = nb.getD j []
            · rw [h, txt_same] at heq
              exact ⟨fun _ => h, fun _ => heq.symm⟩
            · rw [txt_ne (fun e => h (by rw [← sl_tx hy1, ← sl_tx hy2, e]))] at heq
              exact ⟨fun e => (by rw [← heq] at e; cases e), fun e => absurd e h⟩)
          generalize tx (na.getD j []) = X at *
          generalize tx (nb.getD j []) = Y at *
          clear hy1 hy2
          have P0 : Hid (∀ wx, (∃ m, wx = wr.drewN m) → wx.cell? ⟨B, 2, none⟩ = some (.slice (some a1) na.length cn)) := Lib.hid fun wx hx => by
            obtain ⟨k, rfl⟩ := hx
            exact x0
          have P1 : Hid (∀ wx, (∃ m, wx = wr.drewN m) → wx.cell? ⟨B + 1, 2, none⟩ = some (.slice (some a2) na.length dn)) := Lib.hid fun wx hx => by
            obtain ⟨k, rfl⟩ := hx
            exact x1
          go_wp2_with fail
          refine region_drew_tail 10 mixed (by kernel_rfl) ?_
          simp only [List.take_succ_cons, List.take_zero, List.drop_succ_cons, List.drop_zero]
          repeat (first | (refine wpQuiet_load_one rfl 9 _ rfl (a1.add j) rfl _ R0.out Try.underlying9 rfl ?_) | (refine wpQuiet_load_one rfl 9 _ rfl (a2.add j) rfl _ R1.out Try.underlying9 rfl ?_) | (refine wpQuiet_load_one rfl 24 _ rfl ⟨B, 2, none⟩ rfl _ P0.out Try.underlying24 rfl ?_) | (refine wpQuiet_load_one rfl 24 _ rfl ⟨B + 1, 2, none⟩ rfl _ P1.out Try.underlying24 rfl ?_) | go_big_quiet_step (fail) | (refine wpQuiet_step (fun K' hK' => ?_); go_simp; first | (refine hK' _ ?_; clear hK' K') | (refine ⟨_, fun _ _ => rfl, hK' _ ?_⟩; clear hK' K')))
          refine wpQuiet_nil ?_
          rintro w7 ⟨k7, rfl⟩
          have D7 := Lib.hid (below_drewN GB.out k7)
          have E0 := Lib.hid (B0.out.drewN k7)
          have E1 := Lib.hid (B1.out.drewN k7)
          cases eq with
          | false =>
            have HN := Lib.hid (same_no HR.out (fun h => by have h2 := HEQ.out.2 (by rw [show na = nb from h.2.2.1]); cases h2))
            go_wp2
            go_ret
            exact ⟨congrArg (fun x => Ending.returned (.bool x)) HN.out, D7.out⟩
          | true =>
            have hq := HEQ.out.1 rfl
            have HQ := Lib.hid hq
            clear hq
            go_wp2
            go_roundw
            case rel => exact ⟨j + 1, by omega, by go_num, (fun k hk => by
              rcases Nat.lt_or_ge k j with h | h
              · exact HF.out k h
              · obtain rfl : k = j := by omega
                exact HQ.out), E0.out, E1.out, D7.out⟩
            case measure => (simp [intOf]; try omega)
        · obtain rfl : j = na.length := by omega
          have Q2 := Lib.hid (listN_ext L2.out HF.out)
          clear HF hj hlt
          go_wp2
          go_loopw [7] (fun i wr => ∃ j : Nat, j ≤ za.length ∧ i = .int .i64 (j : Int) ∧ (∀ k, k < j → za.getD k 0 = zb.getD k 0) ∧ Blk wr B 27 (cellsV ia (.slice pb la.length cb) (.slice pn na.length cn) (.slice pz za.length cz)) ∧ Blk wr (B + 1) 27 (cellsV ia (.slice qb la.length db) (.slice qn na.length dn) (.slice qz za.length dz)) ∧ Below w.heap.size w wr) (fun i _ => za.length - (intOf i).toNat)
          case atStart => exact ⟨0, by omega, rfl, (fun k h => by omega), B0.out, B1.out, GB.out⟩
          case round =>
            obtain ⟨j, hj, rfl, hf, b0, b1, gb⟩ := hrel
            clear B0 B1 GB
            have HF := Lib.hid hf
            have B0 := Lib.hid b0
            have B1 := Lib.hid b1
            have GB := Lib.hid gb
            have x0 := b0.cell 3
            have x1 := b1.cell 3
            simp only [cellsV, List.getElem?_cons_zero, List.getElem?_cons_succ] at x0 x1
            clear hf b0 b1 gb
            by_cases hlt : j < za.length
            · have hltb : j < zb.length := by rw [← L3.out]; exact hlt
              have dj : (j : Int) < (za.length : Int) := by omega
              obtain ⟨a1, rfl, _⟩ := SlZ.cell (SZ.out.below GB.out) hlt
              obtain ⟨a2, rfl, _⟩ := SlZ.cell (l := zb) (j := j) (TZ.out.below GB.out) hltb
              have R0 : Hid (∀ wx, (∃ m, wx = wr.drewN m) → wx.cell? (a1.add j) = some (.int .i64 (za.getD j 0))) := Lib.hid fun wx hx => by
                obtain ⟨k, rfl⟩ := hx
                obtain ⟨a', e, hc⟩ := SlZ.cell (SZ.out.below (below_drewN GB.out k)) hlt
                cases e
                exact hc
              have R1 : Hid (∀ wx, (∃ m, wx = wr.drewN m) → wx.cell? (a2.add j) = some (.int .i64 (zb.getD j 0))) := Lib.hid fun wx hx => by
                obtain ⟨k, rfl⟩ := hx
                obtain ⟨a', e, hc⟩ := SlZ.cell (TZ.out.below (below_drewN GB.out k)) hltb
                cases e
                exact hc
              obtain ⟨eq, heq⟩ : ∃ eq : Bool, ((za.getD j 0) != (zb.getD j 0)) = eq := ⟨_, rfl⟩
              have HEQ : Hid (eq = false ↔ za.getD j 0 = zb.getD j 0) := Lib.hid (by rw [← heq]; simp)
              obtain ⟨X, hX⟩ : ∃ X, za.getD j 0 = X := ⟨_, rfl⟩
              obtain ⟨Y, hY⟩ : ∃ Y, zb.getD j 0 = Y := ⟨_, rfl⟩
              have HX := Lib.hid hX
              have HY := Lib.hid hY
              rw [hX] at R0 heq
              rw [hY] at R1 heq
              clear hX hY
              have P0 : Hid (∀ wx, (∃ m, wx = wr.drewN m) → wx.cell? ⟨B, 3, none⟩ = some (.slice (some a1) za.length cz)) := Lib.hid fun wx hx => by
                obtain ⟨k, rfl⟩ := hx
                exact x0
              have P1 : Hid (∀ wx, (∃ m, wx = wr.drewN m) → wx.cell? ⟨B + 1, 3, none⟩ = some (.slice (some a2) za.length dz)) := Lib.hid fun wx hx => by
                obtain ⟨k, rfl⟩ := hx
                exact x1
              go_wp2_with fail
              refine region_drew_tail 10 mixed (by kernel_rfl) ?_
              simp only [List.take_succ_cons, List.take_zero, List.drop_succ_cons, List.drop_zero]
              repeat (first | (refine wpQuiet_load_one rfl 3 _ rfl (a1.add j) rfl _ R0.out Try.underlying3 rfl ?_) | (refine wpQuiet_load_one rfl 3 _ rfl (a2.add j) rfl _ R1.out Try.underlying3 rfl ?_) | (refine wpQuiet_load_one rfl 25 _ rfl ⟨B, 3, none⟩ rfl _ P0.out Try.underlying25 rfl ?_) | (refine wpQuiet_load_one rfl 25 _ rfl ⟨B + 1, 3, none⟩ rfl _ P1.out Try.underlying25 rfl ?_) | go_big_quiet_step (fail) | (refine wpQuiet_step (fun K' hK' => ?_); go_simp; first | (refine hK' _ ?_; clear hK' K') | (refine ⟨_, fun _ _ => rfl, hK' _ ?_⟩; clear hK' K')))
              refine wpQuiet_nil ?_
              rintro w7 ⟨k7, rfl⟩
              have D7 := Lib.hid (below_drewN GB.out k7)
              have E0 := Lib.hid (B0.out.drewN k7)
              have E1 := Lib.hid (B1.out.drewN k7)
              cases eq with
              | false =>
                have hq := HEQ.out.1 rfl
                have HQ := Lib.hid hq
                clear hq
                go_wp2
                go_roundw
                case rel => exact ⟨j + 1, by omega, by go_num, (fun k hk => by
                  rcases Nat.lt_or_ge k j with h | h
                  · exact HF.out k h
                  · obtain rfl : k = j := by omega
                    exact HQ.out), E0.out, E1.out, D7.out⟩
                case measure => (simp [intOf]; try omega)
              | true =>
                have HN := Lib.hid (same_no HR.out (fun h => by have h2 := HEQ.out.2 (by rw [show za = zb from h.2.2.2]); cases h2))
                go_wp2
                go_ret
                exact ⟨congrArg (fun x => Ending.returned (.bool x)) HN.out, D7.out⟩
            · obtain rfl : j = za.length := by omega
              have Q3 := Lib.hid (listZ_ext L3.out HF.out)
              clear HF hj hlt
              go_wp2
              go_ret
              have HY := (same_iff (a := ⟨ia, la, na, za⟩) (b := ⟨ia, lb, nb, zb⟩)).2 ⟨rfl, Q1.out, Q2.out, Q3.out⟩
              rw [HR.out] at HY
              exact ⟨congrArg (fun x => Ending.returned (.bool x)) HY.symm, GB.out⟩
end Go.Proofs.Ytahfjfhiejhddaa
