/- Walk of what makes one tree of all. -/
import Derived.Test.YtpjdlkbpnodcdaaPTell
import Derived.Deep.LoopGhost
namespace Go.Proofs.Ytpjdlkbpnodcdaa
open Go.RowKit
set_option linter.unusedVariables false

def ptr2 (b : Nat) : Value := .pointer (some ⟨b, 0, none⟩)
/-- what the region's operations come to -/
def grS (base : Nat) (vq : Value) (a b wa wb : Nat) (i : Nat) (v : Value) (W : World) : Prop :=
  match i with
  | 0 => v = vq
  | 1 | 2 | 3 | 10 => v = ptr2 a
  | 5 | 6 | 7 | 11 => v = ptr2 b
  | 4 => v = .int .i64 (wa : Int)
  | 8 => v = .int .i64 (wb : Int)
  | 9 => v = .int .i64 ((wa + wb : Nat) : Int)
  | 12 => v = .agg (node (wa + wb) 0 (ptr2 a) (ptr2 b)).toArray
  | 13 => ∃ x, base ≤ x ∧ v = ptr2 x ∧ Blk W x 85 (node (wa + wb) 0 (ptr2 a) (ptr2 b))
  | 14 => ∃ x y, base ≤ x ∧ base ≤ y ∧ v = .slice (some ⟨y, 0, none⟩) 1 1 ∧ Blk W y 83 [ptr2 x] ∧ Blk W x 85 (node (wa + wb) 0 (ptr2 a) (ptr2 b))
  | _ => True
/-- how far it is -/
def GrAt (D : Nat → Nat) (T0 base SB PB : Nat) (I : List Nat) (W : World) (gm : Nat) : Prop := ∃ f c l S Q vs vq, Rows2 W base SB PB S Q vs vq ∧ Gr D f c l (S.map (·.1)) (Q.map (·.1)) ∧ S.length + Q.length = gm ∧ 1 ≤ gm ∧ (((S ++ Q).map fun q => q.1.wt).sum = T0) ∧ (((S ++ Q).map (·.1)).flatMap HT.syms).Perm I
/-- the one tree -/
def GrownRet (D : Nat → Nat) (I : List Nat) (w : World) (e : Ending) (w' : World) : Prop := ∃ q : HT × Nat, e = .returned (bptr q) ∧ Tr w' q.1 q.2 ∧ (∀ s ∈ q.1.syms, q.1.dep s = D s) ∧ q.1.syms.Perm I ∧ Below w.heap.size w w'
theorem pick_sum {S Q S' Q' : List (HT × Nat)} {q : HT × Nat} (h : Pick (S.map (·.1)) (Q.map (·.1)) q.1 (S'.map (·.1)) (Q'.map (·.1))) : ((S ++ Q).map fun q => q.1.wt).sum = q.1.wt + ((S' ++ Q').map fun q => q.1.wt).sum := by
  have e : ∀ l : List (HT × Nat), (l.map fun q => q.1.wt) = (l.map (·.1)).map HT.wt := fun l => by rw [List.map_map]; rfl
  rw [e, e, List.map_append, List.map_append]
  have := sum_perm (h.perm.map HT.wt)
  simpa using this
theorem info_tptr : (Try.prog.info? 83).map (fun i => (i.zero, i.size, i.bytes)) = some (some (.pointer none), 1, 8) := by kernel_rfl
theorem build_tree (n : Int) (a b : Nat) (w : World) : (Instr.build 85 #[(0, .int .i64 n), (2, ptr2 a), (3, ptr2 b)]).run Try.prog w = .ok (.agg #[.int .i64 n, .int .i64 0, ptr2 a, ptr2 b]) w := by kernel_rfl
set_option maxRecDepth 100000 in
set_option maxHeartbeats 2000000 in
theorem p_grown (D : Nat → Nat) (f c T0 : Nat) (l : List (Nat × Nat)) (Ss : List (HT × Nat)) (vs : Value) (w : World) (hq : QS w 0 83 vs (Ss.map bptr)) (htr : ∀ q ∈ Ss, Tr w q.1 q.2) (hG : Gr D f c l (Ss.map (·.1)) []) (h1 : 1 ≤ Ss.length) (hT0 : (Ss.map fun q => q.1.wt).sum = T0) (hlo : ∀ b, vs.ownBlock = some b → b < w.heap.size) (hT1 : T0 ≤ 400000000) (hn : Ss.length ≤ 300) :
    Calls Try.prog 46 #[vs] w (GrownRet D ((Ss.map (·.1)).flatMap HT.syms) w) := by
  obtain ⟨i0, hi0, hz0, hz1, hz2⟩ := info_parts2 info_tptr
  obtain ⟨A0, cap0, hvs, _⟩ := id hq
  rw [List.length_map] at hvs
  obtain ⟨len0, hlen0⟩ : ∃ x, Ss.length = x := ⟨_, rfl⟩
  rw [hlen0] at hvs
  subst hvs
  clear hlen0
  obtain ⟨vs, hvs⟩ : ∃ v, Value.slice A0 len0 cap0 = v := ⟨_, rfl⟩
  rw [hvs] at hq hlo
  obtain ⟨w2, hw2⟩ : ∃ w2, (w.alloc (.cells #[vs] 81)).alloc (.cells #[.slice none 0 0] 81) = w2 := ⟨_, rfl⟩
  have hb2 : Below w.heap.size w w2 := by rw [← hw2]; exact ((Below.refl _ _).alloc (Nat.le_refl _) _).alloc (by simp) _
  have hBS : Blk w2 w.heap.size 81 [vs] := by rw [← hw2]; exact (Blk.new' w 81 (c := #[vs]) [vs] rfl).alloc _
  have hBQ : Blk w2 (w.heap.size + 1) 81 [.slice none 0 0] := by rw [← hw2]; exact Blk.new2 w _ 81 (c := #[.slice none 0 0]) [.slice none 0 0] rfl
  have hat : GrAt D T0 w.heap.size w.heap.size (w.heap.size + 1) ((Ss.map (·.1)).flatMap HT.syms) w2 Ss.length := ⟨f, c, l, Ss, [], vs, .slice none 0 0, ⟨hBS, hBQ, hq.below hb2, QS.nil _ _ _, fun q hq' => (htr q (by simpa using hq')).keep (KeepT.of_below hb2), hlo⟩, hG, by simp, h1, by simpa using hT0, by simp⟩
  have HAT := Lib.hid hat
  have HB2 := Lib.hid hb2
  rw [← hvs] at hw2
  have HW2 := Lib.hid hw2
  have hmf := mkf
  generalize (Ss.map (·.1)).flatMap HT.syms = I at *
  generalize Ss.length = n at *
  clear hat hb2 hBS hBQ hq hlo htr hG h1 hT0 hvs
  go_enter Try.func46, Try.ntmps46
  go_wp2
  first | rw [hw2] | skip
  clear HW2 hw2
  go_loopg [5, 6] n (fun gm i j wr => GrAt D T0 w.heap.size w.heap.size (w.heap.size + 1) I wr gm ∧ gm ≤ n ∧ Below w.heap.size w wr)
  case atStart => exact ⟨HAT.out, Nat.le_refl _, HB2.out⟩
  case round =>
    obtain ⟨⟨f, c, l, S, Q, vs, vq, gR, gG, gl, g1, gs, gp⟩, gn, gb⟩ := hrel
    clear HAT HB2
    have c1 := gR.bS.cell 0
    have c2 := gR.bQ.cell 0
    simp only [List.getElem?_cons_zero] at c1 c2
    obtain ⟨AS, capS, hvs, _⟩ := id gR.qS
    obtain ⟨AQ, capQ, hvq, _⟩ := id gR.qQ
    rw [List.length_map] at hvs hvq
    rw [hvs] at c1
    rw [hvq] at c2
    have i1 : (S.length : Int) ≤ 300 := by omega
    have i2 : (Q.length : Int) ≤ 300 := by omega
    have hne : w.heap.size ≠ w.heap.size + 1 := by omega
    have hL := p_lightest _ _ _ S Q vs vq wr gR hne (by omega)
    by_cases h2 : 2 ≤ gk
    · have d1 : (1 : Int) < (S.length : Int) + (Q.length : Int) := by omega
      have HL := Lib.hid hL
      have GG := Lib.hid gG
      have GS := Lib.hid gs
      have GP := Lib.hid gp
      have HNE := Lib.hid hne
      clear hL hvs hvq gG gs gp hne gR
      go_wp2_with fail
      (with_reducible refine HL.out.mono ?_)
      rintro e w3 ⟨a, S1, Q1, vs1, vq1, rfl, pk1, R1, tr1, kt1, bl1, ln1⟩
      have gb1 := gb.trans (bl1 w.heap.size (by omega) (by omega))
      have hL := p_lightest _ _ _ S1 Q1 vs1 vq1 w3 R1 HNE.out (by omega)
      have HL := Lib.hid hL
      have PK1 := Lib.hid pk1
      have KT1 := Lib.hid kt1
      have TR1 := Lib.hid tr1
      clear hL bl1 gb R1 pk1 kt1 tr1 c1 c2
      unfold bptr
      go_wp2_with fail
      (with_reducible refine HL.out.mono ?_)
      rintro e w4 ⟨b, S2, Q2, vs2, vq2, rfl, pk2, R2, tr2, kt2, bl2, ln2⟩
      have gb2 := gb1.trans (bl2 w.heap.size (by omega) (by omega))
      have trA := TR1.out.keep kt2
      clear HL bl2 gb1
      -- the step, by numbers
      obtain ⟨f', rfl⟩ : ∃ f', f = f' + 1 := by
        have q1 := GG.out.fu
        have q2 := GG.out.len
        rw [List.length_map, List.length_map] at q2
        exact ⟨f - 1, by omega⟩
      have hstep := GG.out.step (by rw [GG.out.len, List.length_map, List.length_map]; omega) PK1.out pk2
      have hsum : T0 = a.1.wt + (b.1.wt + ((S2 ++ Q2).map fun q => q.1.wt).sum) := by rw [← GS.out, pick_sum PK1.out, pick_sum pk2]
      have hsy := pick_syms c (a.1.wt + b.1.wt) PK1.out pk2
      have hsy2 : ((S2.map (fun (q : HT × Nat) => q.1) ++ (Q2.map (fun (q : HT × Nat) => q.1) ++ [HT.nd c (a.1.wt + b.1.wt) a.1 b.1])).flatMap HT.syms).Perm I := hsy.symm.trans (by rw [← List.map_append]; exact GP.out)
      obtain ⟨sa, la, ra, tA⟩ := trA.wt
      obtain ⟨sb, lb, rb, tB⟩ := tr2.wt
      have hql := R2.qQ.lt
      have HSTEP := Lib.hid hstep
      have HSUM := Lib.hid hsum
      have HSY := Lib.hid hsy2
      have HR2 := Lib.hid R2
      have HTA := Lib.hid trA
      have HTB := Lib.hid tr2
      have TA := Lib.hid tA
      have TB := Lib.hid tB
      have GB2 := Lib.hid gb2
      have hwab : a.1.wt + b.1.wt ≤ 400000000 := by omega
      have hq2l : Q2.length ≤ 300 := by omega
      have hmid : gk = S2.length + Q2.length + 2 := by omega
      clear hstep hsum hsy hsy2 R2 trA tr2 tA tB GG GS GP PK1 pk2 KT1 kt2 TR1 hql gb2
      have HMID := Lib.hid hmid
      clear hmid ln1 ln2 gl
      obtain ⟨wa, hwa⟩ : ∃ x, a.1.wt = x := ⟨_, rfl⟩
      obtain ⟨wb, hwb⟩ : ∃ x, b.1.wt = x := ⟨_, rfl⟩
      rw [hwa, hwb] at hwab
      have HWA := Lib.hid hwa
      have HWB := Lib.hid hwb
      have cA : ∀ W, Below w4.heap.size w4 W → W.cell? ⟨a.2, 0, none⟩ = some (.int .i64 (wa : Int)) := fun W hW => by
        have := (TA.out.below hW TA.out.lt).cell 0
        rw [HWA.out] at this
        exact this
      have cB : ∀ W, Below w4.heap.size w4 W → W.cell? ⟨b.2, 0, none⟩ = some (.int .i64 (wb : Int)) := fun W hW => by
        have := (TB.out.below hW TB.out.lt).cell 0
        rw [HWB.out] at this
        exact this
      have cP : ∀ W, Below w4.heap.size w4 W → W.cell? ⟨w.heap.size + 1, 0, none⟩ = some vq2 := fun W hW => (HR2.out.bQ.below hW HR2.out.bQ.lt).cell 0
      have CA := Lib.hid cA
      have CB := Lib.hid cB
      have CP := Lib.hid cP
      clear cA cB cP hwa hwb
      have i3 : (wa : Int) + (wb : Int) ≤ 400000000 := by omega
      have w1 : IntKind.i64.wrap ((wa : Int) + (wb : Int)) = ((wa + wb : Nat) : Int) := by rw [IntWalk.i64_in _ (by omega)]; simp
      have HW1 := Lib.hid w1
      clear w1
      unfold bptr
      go_wp2_with fail
      refine region_free_two 15 mixed (by kernel_rfl) (by kernel_rfl) (fun u => #[_, _, _, _, _, _, _, _, _, _, _, _, _, _, _, _, _, _, u 0, u 1, u 2, u 3, u 4, u 5, u 6, u 7, u 8, u 9, u 10, u 11, u 12, u 13, u 14, u 15, _, _]) [] (fun i => match i with | 0 => _ | 1 => _ | 2 => _ | 3 => _ | 4 => _ | 5 => _ | 6 => _ | 7 => _ | 8 => _ | 9 => _ | 10 => _ | 11 => _ | 12 => _ | 13 => _ | 14 => _ | 15 => _ | _ => undef) rfl (fun W => Below w4.heap.size w4 W) (Below.refl _ _).drew (grS w4.heap.size vq2 a.2 b.2 wa wb) ?mono ?step ?last
      case mono =>
        intro i v W W' hv hC hC' hb
        match i with
        | 0 | 1 | 2 | 3 | 4 | 5 | 6 | 7 | 8 | 9 | 10 | 11 | 12 => exact hv
        | 13 =>
          obtain ⟨x, h1, h2, h3⟩ := hv
          exact ⟨x, h1, h2, h3.below hb h3.lt⟩
        | 14 =>
          obtain ⟨x, y, h1, h2, h3, h4, h5⟩ := hv
          exact ⟨x, y, h1, h2, h3, h4.below hb h4.lt, h5.below hb h5.lt⟩
        | _ + 15 => trivial
      case step =>
        intro u W i o hi ho hC hd
        have hr := Below.refl W.heap.size W
        rcases i with _ | _ | _ | _ | _ | _ | _ | _ | _ | _ | _ | _ | _ | _ | _ | i
        all_goals try (simp only [List.getElem?_cons_zero, List.getElem?_cons_succ, Option.some.injEq] at ho; subst ho)
        · have c1 := CP.out W hC
          go_wp2_with fail
          exact ⟨_, rfl, rfl, hC, hr⟩
        · go_wp2_with fail
          exact ⟨_, rfl, rfl, hC, hr⟩
        · have h1 : u 1 = ptr2 a.2 := hd ⟨1, .data⟩ (by simp) rfl
          unfold ptr2 at h1
          rw [h1]
          go_wp2_with fail
          exact ⟨_, by simp [upd, h1, ptr2], rfl, hC, hr⟩
        · have h1 : u 2 = ptr2 a.2 := hd ⟨2, .data⟩ (by simp) rfl
          unfold ptr2 at h1
          rw [h1]
          go_wp2_with fail
          exact ⟨_, by simp [upd, h1, ptr2], rfl, hC, hr⟩
        · have h1 : u 3 = ptr2 a.2 := hd ⟨3, .data⟩ (by simp) rfl
          unfold ptr2 at h1
          have c1 := CA.out W hC
          rw [h1]
          go_wp2_with fail
          exact ⟨_, by simp [upd, h1], rfl, hC, hr⟩
        · go_wp2_with fail
          exact ⟨_, rfl, rfl, hC, hr⟩
        · have h1 : u 5 = ptr2 b.2 := hd ⟨5, .data⟩ (by simp) rfl
          unfold ptr2 at h1
          rw [h1]
          go_wp2_with fail
          exact ⟨_, by simp [upd, h1, ptr2], rfl, hC, hr⟩
        · have h1 : u 6 = ptr2 b.2 := hd ⟨6, .data⟩ (by simp) rfl
          unfold ptr2 at h1
          rw [h1]
          go_wp2_with fail
          exact ⟨_, by simp [upd, h1, ptr2], rfl, hC, hr⟩
        · have h1 : u 7 = ptr2 b.2 := hd ⟨7, .data⟩ (by simp) rfl
          unfold ptr2 at h1
          have c1 := CB.out W hC
          rw [h1]
          go_wp2_with fail
          exact ⟨_, by simp [upd, h1], rfl, hC, hr⟩
        · have h1 : u 4 = .int .i64 (wa : Int) := hd ⟨4, .data⟩ (by simp) rfl
          have h2 : u 8 = .int .i64 (wb : Int) := hd ⟨8, .data⟩ (by simp) rfl
          rw [h1, h2]
          go_wp2_with fail
          exact ⟨.int .i64 ((wa + wb : Nat) : Int), by simp [upd, h1, h2], rfl, hC, hr⟩
        · go_wp2_with fail
          exact ⟨_, rfl, rfl, hC, hr⟩
        · go_wp2_with fail
          exact ⟨_, rfl, rfl, hC, hr⟩
        · have h1 : u 9 = .int .i64 ((wa + wb : Nat) : Int) := hd ⟨9, .data⟩ (by simp) rfl
          have h2 : u 10 = ptr2 a.2 := hd ⟨10, .data⟩ (by simp) rfl
          have h3 : u 11 = ptr2 b.2 := hd ⟨11, .data⟩ (by simp) rfl
          rw [h1, h2, h3]
          have hb := build_tree ((wa + wb : Nat) : Int) a.2 b.2
          unfold ptr2 at hb ⊢
          go_wp2_with fail
          exact ⟨.agg (node (wa + wb) 0 (ptr2 a.2) (ptr2 b.2)).toArray, by simp [upd, h1, h2, h3, ptr2, node], rfl, hC, hr⟩
        · have h1 : u 12 = .agg (node (wa + wb) 0 (ptr2 a.2) (ptr2 b.2)).toArray := hd ⟨12, .data⟩ (by simp) rfl
          have hz := hC.size
          unfold node ptr2 at h1
          rw [h1]
          go_wp2_with fail
          exact ⟨ptr2 W.heap.size, by simp [upd, h1, ptr2], ⟨W.heap.size, hz, rfl, Blk.new' W _ _ rfl⟩, Below.alloc hC hz _, hr.alloc (Nat.le_refl _) _⟩
        · obtain ⟨x, hx, h1, h2⟩ : ∃ x, w4.heap.size ≤ x ∧ u 13 = ptr2 x ∧ Blk W x 85 (node (wa + wb) 0 (ptr2 a.2) (ptr2 b.2)) := hd ⟨13, .data⟩ (by simp) rfl
          have hz := hC.size
          unfold ptr2 at h1
          rw [h1]
          have h2 := Lib.hid h2
          go_wp2_with fail
          exact ⟨_, by simp [upd, h1], ⟨x, W.heap.size, hx, hz, rfl, Blk.new' W _ _ rfl, h2.out.alloc _⟩, Below.alloc hC hz _, hr.alloc (Nat.le_refl _) _⟩
        · omega
      case last =>
        intro u W o o' ho ho' hC hS
        simp only [List.getElem?_cons_zero, List.getElem?_cons_succ, Option.some.injEq] at ho ho'
        subst ho
        subst ho'
        have h0 : u 0 = vq2 := hS 0 (by decide)
        obtain ⟨x, y, hx, hy, h14, hY, hX⟩ : ∃ x y, w4.heap.size ≤ x ∧ w4.heap.size ≤ y ∧ u 14 = .slice (some ⟨y, 0, none⟩) 1 1 ∧ Blk W y 83 [ptr2 x] ∧ Blk W x 85 (node (wa + wb) 0 (ptr2 a.2) (ptr2 b.2)) := hS 14 (by decide)
        have hQ := HR2.out.qQ.below hC
        have hBQ := HR2.out.bQ.below hC HR2.out.bQ.lt
        have hBS := HR2.out.bS.below hC HR2.out.bS.lt
        have hqS := HR2.out.qS.below hC
        have hTA := HTA.out.keep (KeepT.of_below hC)
        have hTB := HTB.out.keep (KeepT.of_below hC)
        have hTR : ∀ q ∈ S2 ++ Q2, Tr W q.1 q.2 := fun q hq => (HR2.out.tr q hq).keep (KeepT.of_below hC)
        have hGB : Below w.heap.size w W := GB2.out.trans (hC.mono GB2.out.size)
        have h63 : (Q2.map bptr).length + 1 ≤ maxLen := by rw [List.length_map]; unfold maxLen; omega
        have hby : ((Q2.map bptr).length + 1) * 8 ≤ 140737488355328 := by rw [List.length_map]; omega
        have hbase : w.heap.size ≤ W.heap.size := hGB.size
        have f1 := hBQ.free 0
        have HQ := Lib.hid hQ
        have HBQ := Lib.hid hBQ
        have HY := Lib.hid hY
        have HX := Lib.hid hX
        have H63 := Lib.hid h63
        have HBY := Lib.hid hby
        have HBASE := Lib.hid hbase
        clear hQ hBQ hY hX h63 hby hbase hS f1
        rw [h0, h14]
        clear h0 h14
        go_wp2_with (refine wpList_append_qs rfl _ _ 81 rfl w.heap.size 83 i0 (.pointer none) 8 Try.underlying81 hi0 hz0 hz1 hz2 rfl vq2 _ rfl HQ.out y (ptr2 x) rfl HY.out rfl H63.out HBY.out HBASE.out ?_; intro v' w5 hq5 hg5 hv5; obtain ⟨A5, cap5, hv', _⟩ := id hq5; obtain ⟨n5, hn5⟩ : ∃ n, (List.map bptr Q2 ++ [ptr2 x]).length = n := ⟨_, rfl⟩; rw [hn5] at hv'; subst hv'; clear hn5 hv5; have K5 := HBQ.out.grownO hg5 (HQ.out.ne HBQ.out (by decide)); have c5 := K5.cell 0; have f5 := K5.free 0; simp only [List.getElem?_cons_zero] at c5)
        go_roundg (gk - 1)
        case measure => omega
        case rel =>
          have hne : ∀ {bb : Nat} {t : TypeId} {vs : List Value}, Blk W bb t vs → t ≠ 83 → Blk w5 bb t vs := fun hb ht => hb.grownO hg5 (HQ.out.ne hb ht)
          have kt5 : KeepT W w5 := fun bb vs hb => hne hb (by decide)
          have kt6 : KeepT w5 (w5.setCell ⟨w.heap.size + 1, 0, none⟩ (.slice A5 n5 cap5)) := KeepT.setCell K5 (by decide) _
          have hlo2 := HR2.out.lo
          have hqS5 : QS w5 0 83 vs2 (S2.map bptr) := hqS.block fun bb t vs hbb hb => hb.grownO hg5 fun i hi => by
            have := (HQ.out.lt i hi).1
            have := hlo2 bb hbb
            omega
          have hX6 : Blk (w5.setCell ⟨w.heap.size + 1, 0, none⟩ (.slice A5 n5 cap5)) x 85 (node (wa + wb) 0 (ptr2 a.2) (ptr2 b.2)) := kt6 _ _ (kt5 _ _ HX.out)
          refine ⟨⟨f', c + 1, nextT c l, S2, Q2 ++ [(.nd c (wa + wb) a.1 b.1, x)], vs2, .slice A5 n5 cap5, ⟨?_, ?_, ?_, ?_, ?_, hlo2⟩, ?_, ?_, ?_, ?_, ?_⟩, ?_, ?_⟩
          · exact (hne hBS (by decide)).other (a := ⟨w.heap.size + 1, 0, none⟩) (by simp) _
          · exact blk_same K5 _
          · exact hqS5.other K5 (by decide) _
          · rw [List.map_append]
            exact hq5.other K5 (by decide) _
          · intro q hq
            rw [← List.append_assoc] at hq
            rcases List.mem_append.1 hq with hq | hq
            · exact ((hTR q hq).keep kt5).keep kt6
            · rw [List.mem_singleton.1 hq]
              exact ⟨a.2, b.2, hX6, (hTA.keep kt5).keep kt6, (hTB.keep kt5).keep kt6⟩
          · have := HSTEP.out
            rw [HWA.out, HWB.out] at this
            simpa using this
          · have := HMID.out
            rw [List.length_append, List.length_singleton]
            omega
          · omega
          · have := HSUM.out
            rw [HWA.out, HWB.out] at this
            simp only [List.map_append, List.sum_append, List.map_cons, List.map_nil, List.sum_cons, List.sum_nil, HT.wt] at this ⊢
            omega
          · have := HSY.out
            rw [HWA.out, HWB.out] at this
            simpa using this
          · omega
          · exact (hGB.grown hg5 HBASE.out (fun i hi => (HQ.out.lt i hi).1)).setCell (p := ⟨w.heap.size + 1, 0, none⟩) (show w.heap.size ≤ w.heap.size + 1 by omega) _
    · have hgk : gk = 1 := by omega
      have d1 : ¬ (1 : Int) < (S.length : Int) + (Q.length : Int) := by omega
      have HL := Lib.hid hL
      have GG := Lib.hid gG
      have GP := Lib.hid gp
      have GL := Lib.hid gl
      have HGK := Lib.hid hgk
      clear hL hvs hvq gG gs gp hne gR hgk gl
      go_wp2_with fail
      (with_reducible refine HL.out.mono ?_)
      rintro e w3 ⟨a, S1, Q1, vs1, vq1, rfl, pk1, R1, tr1, kt1, bl1, ln1⟩
      have gb1 := gb.trans (bl1 w.heap.size (by omega) (by omega))
      have hl1 := GG.out.len
      rw [List.length_map, List.length_map] at hl1
      have hdep := GG.out.last (by have := GL.out; have := HGK.out; omega) pk1
      have hsy := pick_one (by rw [List.length_map, List.length_map]; have := GL.out; have := HGK.out; omega) pk1
      have hp : a.1.syms.Perm I := by rw [← hsy, ← List.map_append]; exact GP.out
      have HD := Lib.hid hdep
      have HP := Lib.hid hp
      clear HL GG GP GL HGK pk1 R1 kt1 bl1 ln1 hl1 hdep hsy hp
      unfold bptr
      go_wp2
      go_ret
      exact ⟨a, rfl, tr1, HD.out, HP.out, gb1⟩
end Go.Proofs.Ytpjdlkbpnodcdaa
