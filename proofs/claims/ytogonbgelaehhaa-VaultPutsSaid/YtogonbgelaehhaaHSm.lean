/- Walk of the program's Same of versions. -/
import Derived.Test.YtogonbgelaehhaaEqs
namespace Go.Proofs.Ytogonbgelaehhaa
open Go.RowKit
set_option linter.unusedVariables false

set_option maxRecDepth 100000 in
set_option maxHeartbeats 4000000 in
theorem h_Same (a b : RawV) (va vb : Value) (r : Bool) (w : World) (hr : sameV a b = r) (hA : VV w va a) (hB : VV w vb b) (ha : a.ok) (hb : b.ok) (h1 : a.bl.length ≤ 1000000) (h2 : a.ns.length ≤ 1000000) (h3 : a.zs.length ≤ 1000000) :
    Calls Try.prog 30 #[va, vb] w fun e w' => e = .returned (.bool r) ∧ Below w.heap.size w w' := by
  obtain ⟨v1, v2, v3, rfl, ⟨pb, cb, rfl⟩, ⟨pn, cn, rfl⟩, ⟨pz, cz, rfl⟩, sb, sn, sz⟩ := hA
  obtain ⟨u1, u2, u3, rfl, ⟨qb, db, rfl⟩, ⟨qn, dn, rfl⟩, ⟨qz, dz, rfl⟩, tb, tn, tz⟩ := hB
  obtain ⟨B, hBB⟩ : ∃ B, w.heap.size = B := ⟨_, rfl⟩
  have HBE := Lib.hid hBB
  have k0 := (Blk.newAt w B hBB 28 (c := (cellsV a.id (.slice pb a.bl.length cb) (.slice pn a.ns.length cn) (.slice pz a.zs.length cz)).toArray) _ rfl).alloc (.cells (cellsV b.id (.slice qb b.bl.length db) (.slice qn b.ns.length dn) (.slice qz b.zs.length dz)).toArray 28)
  have k1 := Blk.newAt (w.alloc (.cells (cellsV a.id (.slice pb a.bl.length cb) (.slice pn a.ns.length cn) (.slice pz a.zs.length cz)).toArray 28)) (B + 1) (by simp [hBB]) 28 (c := (cellsV b.id (.slice qb b.bl.length db) (.slice qn b.ns.length dn) (.slice qz b.zs.length dz)).toArray) _ rfl
  have KB := Lib.hid (((Below.refl w.heap.size w).alloc (Nat.le_refl _) (.cells (cellsV a.id (.slice pb a.bl.length cb) (.slice pn a.ns.length cn) (.slice pz a.zs.length cz)).toArray 28)).alloc (by simp) (.cells (cellsV b.id (.slice qb b.bl.length db) (.slice qn b.ns.length dn) (.slice qz b.zs.length dz)).toArray 28))
  obtain ⟨W, hW⟩ : ∃ W, (w.alloc (.cells (cellsV a.id (.slice pb a.bl.length cb) (.slice pn a.ns.length cn) (.slice pz a.zs.length cz)).toArray 28)).alloc (.cells (cellsV b.id (.slice qb b.bl.length db) (.slice qn b.ns.length dn) (.slice qz b.zs.length dz)).toArray 28) = W := ⟨_, rfl⟩
  rw [hW] at k0 k1 KB
  have HW := Lib.hid hW
  have HR := Lib.hid hr
  have K0 := Lib.hid k0
  have K1 := Lib.hid k1
  have QH := Lib.hid (fun (r : Bool) (hr : decide (a.bl = b.bl) = r) => eq_H a.bl b.bl pb qb cb db r W hr ha.2.1 hb.2.1 h1 (sb.below KB.out) (tb.below KB.out))
  have QS := Lib.hid (fun (r : Bool) (hr : decide (a.ns = b.ns) = r) wx (h : Below W.heap.size W wx) => eq_S a.ns b.ns pn qn cn dn r wx hr ha.2.2.1 hb.2.2.1 h2 ((sn.below KB.out).below h) ((tn.below KB.out).below h))
  have QZ := Lib.hid (fun (r : Bool) (hr : decide (a.zs = b.zs) = r) wx (h : Below W.heap.size W wx) => eq_Z a.zs b.zs pz qz cz dz r wx hr h3 ((sz.below KB.out).below h) ((tz.below KB.out).below h))
  have CA : Hid (∀ wx, Below W.heap.size W wx → wx.cell? ⟨B, 2, none⟩ = some (.slice pn a.ns.length cn) ∧ wx.cell? ⟨B, 3, none⟩ = some (.slice pz a.zs.length cz)) := Lib.hid fun wx h => ⟨by rw [(K0.out.below h K0.out.lt).cell]; rfl, by rw [(K0.out.below h K0.out.lt).cell]; rfl⟩
  have CB : Hid (∀ wx, Below W.heap.size W wx → wx.cell? ⟨B + 1, 2, none⟩ = some (.slice qn b.ns.length dn) ∧ wx.cell? ⟨B + 1, 3, none⟩ = some (.slice qz b.zs.length dz)) := Lib.hid fun wx h => ⟨by rw [(K1.out.below h K1.out.lt).cell]; rfl, by rw [(K1.out.below h K1.out.lt).cell]; rfl⟩
  have ca0 : ((w.alloc (.cells (cellsV a.id (.slice pb a.bl.length cb) (.slice pn a.ns.length cn) (.slice pz a.zs.length cz)).toArray 28)).alloc (.cells (cellsV b.id (.slice qb b.bl.length db) (.slice qn b.ns.length dn) (.slice qz b.zs.length dz)).toArray 28)).cell? ⟨B, 0, none⟩ = some (.int .u32 (a.id : Int)) := by rw [hW, k0.cell]; rfl
  have ca1 : ((w.alloc (.cells (cellsV a.id (.slice pb a.bl.length cb) (.slice pn a.ns.length cn) (.slice pz a.zs.length cz)).toArray 28)).alloc (.cells (cellsV b.id (.slice qb b.bl.length db) (.slice qn b.ns.length dn) (.slice qz b.zs.length dz)).toArray 28)).cell? ⟨B, 1, none⟩ = some (.slice pb a.bl.length cb) := by rw [hW, k0.cell]; rfl
  have cb0 : ((w.alloc (.cells (cellsV a.id (.slice pb a.bl.length cb) (.slice pn a.ns.length cn) (.slice pz a.zs.length cz)).toArray 28)).alloc (.cells (cellsV b.id (.slice qb b.bl.length db) (.slice qn b.ns.length dn) (.slice qz b.zs.length dz)).toArray 28)).cell? ⟨B + 1, 0, none⟩ = some (.int .u32 (b.id : Int)) := by rw [hW, k1.cell]; rfl
  have cb1 : ((w.alloc (.cells (cellsV a.id (.slice pb a.bl.length cb) (.slice pn a.ns.length cn) (.slice pz a.zs.length cz)).toArray 28)).alloc (.cells (cellsV b.id (.slice qb b.bl.length db) (.slice qn b.ns.length dn) (.slice qz b.zs.length dz)).toArray 28)).cell? ⟨B + 1, 1, none⟩ = some (.slice qb b.bl.length db) := by rw [hW, k1.cell]; rfl
  clear k0 k1 sb sn sz tb tn tz ha hb hr hW h1 h2 h3
  by_cases q0 : a.id = b.id
  rotate_left
  · have HN := Lib.hid (same_no HR.out (fun h => q0 h.1))
    have e0 : ((a.id : Int) == (b.id : Int)) = false := by rw [beq_eq_false_iff_ne]; omega
    clear q0
    go_enter Try.func30, Try.ntmps30
    go_wp2_with fail
    rw [HW.out]
    go_wp2
    go_ret
    exact ⟨congrArg (fun x => Ending.returned (.bool x)) HN.out, KB.out⟩
  have e0 : ((a.id : Int) == (b.id : Int)) = true := by rw [q0]; simp
  by_cases q1 : a.bl = b.bl
  rotate_left
  · have HN := Lib.hid (same_no HR.out (fun h => q1 h.2.1))
    have QH1 := Lib.hid (QH.out false (decide_eq_false q1))
    clear q1 q0
    go_enter Try.func30, Try.ntmps30
    go_wp2_with fail
    rw [HW.out]
    refine QH1.out.mono ?_
    rintro e w1 ⟨rfl, hb1⟩
    have G1 := Lib.hid (KB.out.trans (hb1.mono KB.out.size))
    clear hb1
    go_wp2
    go_ret
    exact ⟨congrArg (fun x => Ending.returned (.bool x)) HN.out, G1.out⟩
  have QH1 := Lib.hid (QH.out true (decide_eq_true q1))
  by_cases q2 : a.ns = b.ns
  rotate_left
  · have HN := Lib.hid (same_no HR.out (fun h => q2 h.2.2.1))
    have QS1 := Lib.hid (QS.out false (decide_eq_false q2))
    clear q1 q0 q2
    go_enter Try.func30, Try.ntmps30
    go_wp2_with fail
    rw [HW.out]
    refine QH1.out.mono ?_
    rintro e w1 ⟨rfl, hb1⟩
    have ⟨x2, x3⟩ := CA.out w1 hb1
    have ⟨y2, y3⟩ := CB.out w1 hb1
    have HB1 := Lib.hid hb1
    clear hb1
    go_wp2_with fail
    refine (QS1.out w1 HB1.out).mono ?_
    rintro e w2 ⟨rfl, hb2⟩
    have G2 := Lib.hid (KB.out.trans ((HB1.out.trans (hb2.mono HB1.out.size)).mono KB.out.size))
    clear hb2 x2 x3 y2 y3
    go_wp2
    go_ret
    exact ⟨congrArg (fun x => Ending.returned (.bool x)) HN.out, G2.out⟩
  have QS1 := Lib.hid (QS.out true (decide_eq_true q2))
  have HZ : Hid (decide (a.zs = b.zs) = r) := Lib.hid (by rw [← HR.out]; unfold sameV; simp [q0, q1, q2])
  have QZ1 := Lib.hid (QZ.out r HZ.out)
  clear q0 q1 q2
  go_enter Try.func30, Try.ntmps30
  go_wp2_with fail
  rw [HW.out]
  refine QH1.out.mono ?_
  rintro e w1 ⟨rfl, hb1⟩
  have ⟨x2, x3⟩ := CA.out w1 hb1
  have ⟨y2, y3⟩ := CB.out w1 hb1
  have HB1 := Lib.hid hb1
  clear hb1
  go_wp2_with fail
  refine (QS1.out w1 HB1.out).mono ?_
  rintro e w2 ⟨rfl, hb2⟩
  have HB2 := Lib.hid (HB1.out.trans (hb2.mono HB1.out.size))
  clear hb2 x2 x3 y2 y3
  have ⟨x2, x3⟩ := CA.out w2 HB2.out
  have ⟨y2, y3⟩ := CB.out w2 HB2.out
  go_wp2_with fail
  refine (QZ1.out w2 HB2.out).mono ?_
  rintro e w3 ⟨rfl, hb3⟩
  have G3 := Lib.hid (KB.out.trans ((HB2.out.trans (hb3.mono HB2.out.size)).mono KB.out.size))
  clear hb3 x2 x3 y2 y3
  go_wp2
  go_ret
  exact ⟨rfl, G3.out⟩
end Go.Proofs.Ytogonbgelaehhaa
