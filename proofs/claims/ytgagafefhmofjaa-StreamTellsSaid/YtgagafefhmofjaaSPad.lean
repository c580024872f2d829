/- Walk of stream's Pad. -/
import Derived.Test.YtgagafefhmofjaaSPadL
namespace Go.Proofs.Ytgagafefhmofjaa
open Go.RowKit Go.Shelf
set_option linter.unusedVariables false

attribute [local go_sem] Oper.semAt_some

set_option maxRecDepth 100000 in
set_option maxHeartbeats 400000 in
theorem s_Pad_some (key nc : List Nat) (N : Nat) (w : World) (hk : key.length = 32) (hkb : Bys key) (hn : nc.length = 16) (hnb : Bys nc) (hN0 : 0 < N) (hN : N ≤ 65536) :
    Calls Try.prog 22 #[.agg (ints .u8 (nn key)).toArray, .agg (ints .u8 (nn nc)).toArray, .int .i64 (N : Int)] w fun e w' => e = .returned (.string (bs (nn (padL key nc N)))) ∧ Below w.heap.size w w' := by
  obtain ⟨PL, hPL⟩ : ∃ L, padL key nc N = L := ⟨_, rfl⟩
  rw [hPL]
  have HPA := Lib.hid hPL
  clear hPL
  have n1 : (0 : Int) < (N : Int) := by omega
  have n2 : (N : Int) ≤ 65536 := by omega
  have n3 : ¬ ((N : Int) ≤ 0) := by omega
  obtain ⟨i0, hi0, hz0, hz1, hz2⟩ := info_parts info_u8
  have HK := Lib.hid hk
  have HN := Lib.hid hn
  clear hk hn
  have k0 : Blk (((w.alloc (.cells (ints .u8 (nn key)).toArray 23)).alloc (.cells (ints .u8 (nn nc)).toArray 28)).alloc (.cells #[.int .i64 (N : Int)] 3)) w.heap.size 23 (ints .u8 (nn key)) := ((Blk.new _ _ _).alloc _).alloc _
  have k1 : Blk (((w.alloc (.cells (ints .u8 (nn key)).toArray 23)).alloc (.cells (ints .u8 (nn nc)).toArray 28)).alloc (.cells #[.int .i64 (N : Int)] 3)) (w.heap.size + 1) 28 (ints .u8 (nn nc)) := (Blk.new2 _ _ _ _ rfl).alloc _
  have k2 : Blk (((w.alloc (.cells (ints .u8 (nn key)).toArray 23)).alloc (.cells (ints .u8 (nn nc)).toArray 28)).alloc (.cells #[.int .i64 (N : Int)] 3)) (w.heap.size + 1 + 1) 3 [.int .i64 (N : Int)] := by
    have := Blk.new2 (w.alloc (.cells (ints .u8 (nn key)).toArray 23)) (.cells (ints .u8 (nn nc)).toArray 28) 3 (c := #[.int .i64 (N : Int)]) [.int .i64 (N : Int)] rfl
    rw [World.size_alloc] at this
    exact this
  have kb : Below w.heap.size w (((w.alloc (.cells (ints .u8 (nn key)).toArray 23)).alloc (.cells (ints .u8 (nn nc)).toArray 28)).alloc (.cells #[.int .i64 (N : Int)] 3)) := (((Below.refl _ _).alloc (Nat.le_refl _) _).alloc (by simp) _).alloc (by simp; omega) _
  refine (callsIn_wide (n := 9)).1 (callsIn_of_wp_marks Try.func22 rfl trivial ?_ rfl)
  simp only [Try.ntmps22, List.size_toArray, List.length_cons, List.length_nil, Nat.reduceAdd, Nat.reduceSub, Array.replicate_succ, Array.replicate_zero, List.push_toArray, List.append_toArray, List.nil_append, List.cons_append]
  refine wpIn_wide.2 ?_
  go_wp2
  go_step3
  have hml : N ≤ maxLen := by simp [maxLen]; omega
  have hby : i0.bytes * N ≤ 281474976710656 := by rw [hz2]; omega
  go_wp2_with (refine wpList_make_own _ rfl _ _ 52 rfl w.heap.size 5 i0 (.int .u8 0) 1 rfl hi0 hz0 hz1 .i64 .i64 (N : Int) N rfl rfl rfl hby hml kb.size ?_; intro w4 hown4 hg4)
  have e4 : (((w.alloc (.cells (ints .u8 (nn key)).toArray 23)).alloc (.cells (ints .u8 (nn nc)).toArray 28)).alloc (.cells #[.int .i64 (N : Int)] 3)).heap.size = w.heap.size + 1 + 1 + 1 := by simp
  rw [e4] at hown4
  have b4 := Below.grown (Below.refl _ _) hg4 (Nat.le_refl _) (fun k hk => by cases hk)
  have z4 := b4.size
  have z5 : w.heap.size + 1 + 1 + 1 < w4.heap.size := (OwnB.lt (l := []) hown4 _ rfl).2
  rw [e4] at z4
  have p0 := k0.below b4 k0.lt
  have p1 := k1.below b4 k1.lt
  have p2 := k2.below b4 k2.lt
  have pb := kb.trans (b4.mono kb.size)
  clear k0 k1 k2 kb hg4 b4
  have q0 := p0.alloc (.cells #[.slice (some ⟨w.heap.size + 1 + 1 + 1, 0, none⟩) 0 N] 52)
  have q1 := p1.alloc (.cells #[.slice (some ⟨w.heap.size + 1 + 1 + 1, 0, none⟩) 0 N] 52)
  have q2 := p2.alloc (.cells #[.slice (some ⟨w.heap.size + 1 + 1 + 1, 0, none⟩) 0 N] 52)
  have q7 : Blk (w4.alloc (.cells #[.slice (some ⟨w.heap.size + 1 + 1 + 1, 0, none⟩) 0 N] 52)) w4.heap.size 52 [.slice (some ⟨w.heap.size + 1 + 1 + 1, 0, none⟩) 0 N] := Blk.new' _ _ _ rfl
  have qo : OwnB (w4.alloc (.cells #[.slice (some ⟨w.heap.size + 1 + 1 + 1, 0, none⟩) 0 N] 52)) w.heap.size 5 (.slice (some ⟨w.heap.size + 1 + 1 + 1, 0, none⟩) 0 N) (nn (flatP key nc [])) := OwnB.alloc (l := []) hown4 _
  have qb := pb.alloc pb.size (.cells #[.slice (some ⟨w.heap.size + 1 + 1 + 1, 0, none⟩) 0 N] 52)
  clear p0 p1 p2 pb hown4 e4
  go_step3
  go_wp2_with (first | (refine wpList_load_blk rfl 23 _ rfl _ rfl q0 Try.underlying23 rfl (by rw [size_hash, ints_length, nn_length, HK.out]) ?_) | (refine wpList_load_blk rfl 28 _ rfl _ rfl q1 Try.underlying28 rfl (by rw [size_b16, ints_length, nn_length, HN.out]) ?_))
  refine (s_blocks _ _ _).mono ?_
  rintro e w9 ⟨rfl, rfl⟩
  go_wp2
  have r0 : Blk (((w4.alloc (.cells #[.slice (some ⟨w.heap.size + 1 + 1 + 1, 0, none⟩) 0 N] 52)).alloc (.cells (ints .u8 (nn key)).toArray 23)).alloc (.cells (ints .u8 (nn nc)).toArray 28)) (w4.heap.size + 1) 23 (ints .u8 (nn key)) := (Blk.new2 _ _ _ _ rfl).alloc _
  have r1 : Blk (((w4.alloc (.cells #[.slice (some ⟨w.heap.size + 1 + 1 + 1, 0, none⟩) 0 N] 52)).alloc (.cells (ints .u8 (nn key)).toArray 23)).alloc (.cells (ints .u8 (nn nc)).toArray 28)) (w4.heap.size + 1 + 1) 28 (ints .u8 (nn nc)) := by
    have := Blk.new2 (w4.alloc (.cells #[.slice (some ⟨w.heap.size + 1 + 1 + 1, 0, none⟩) 0 N] 52)) (.cells (ints .u8 (nn key)).toArray 23) 28 (ints .u8 (nn nc)) rfl
    rw [World.size_alloc] at this
    exact this
  have r2 := (q2.alloc (.cells (ints .u8 (nn key)).toArray 23)).alloc (.cells (ints .u8 (nn nc)).toArray 28)
  have r7 := (q7.alloc (.cells (ints .u8 (nn key)).toArray 23)).alloc (.cells (ints .u8 (nn nc)).toArray 28)
  have ro := (qo.alloc (.cells (ints .u8 (nn key)).toArray 23)).alloc (.cells (ints .u8 (nn nc)).toArray 28)
  have rb := (qb.alloc qb.size (.cells (ints .u8 (nn key)).toArray 23)).alloc (by have := qb.size; simp at this ⊢; omega) (.cells (ints .u8 (nn nc)).toArray 28)
  have rz : (((w4.alloc (.cells #[.slice (some ⟨w.heap.size + 1 + 1 + 1, 0, none⟩) 0 N] 52)).alloc (.cells (ints .u8 (nn key)).toArray 23)).alloc (.cells (ints .u8 (nn nc)).toArray 28)).heap.size = w4.heap.size + 3 := by simp
  clear q0 q1 q2 q7 qo qb
  generalize World.alloc (World.alloc (World.alloc w4 _) _) _ = w6 at *
  generalize w4.heap.size = B7 at *
  refine (wpIn_wide (n := 9)).1 ?_
  have r00 : 16 * ([] : List Nat).length < N := by simpa using hN0
  refine wpIn_rangeFunc_till (n := 9) (by omega) (gf := 45) (lb := #[.pointer (some ⟨B7 + 1, 0, none⟩), .pointer (some ⟨B7 + 1 + 1, 0, none⟩)]) rfl (enters_of Try.func45 (by kernel_rfl) rfl)
    (s_till 8 (B7 + 1) (B7 + 1 + 1) N key nc HK.out hkb HN.out hnb hN (by omega) w6 r0 r1) (fun h k => h.trans k) (fun W l o o' _ h hc _ => KpB.put W l o o' h hc) (Below.refl _ _) (fun _ => rfl) 0
    (fun pre W => (Blk W B7 52 [.slice (some ⟨w.heap.size + 1 + 1 + 1, 0, none⟩) (16 * pre.length) N] ∧ OwnB W w.heap.size 5 (.slice (some ⟨w.heap.size + 1 + 1 + 1, 0, none⟩) (16 * pre.length) N) (nn (flatP key nc pre)) ∧ Blk W (w.heap.size + 1 + 1) 3 [.int .i64 (N : Int)] ∧ 16 * pre.length < N ∧ w6.heap.size ≤ W.heap.size) ∧ Below w.heap.size w W)
    (fun pre W => (Blk W B7 52 [.slice (some ⟨w.heap.size + 1 + 1 + 1, 0, none⟩) N N] ∧ OwnB W w.heap.size 5 (.slice (some ⟨w.heap.size + 1 + 1 + 1, 0, none⟩) N N) (nn ((flatP key nc pre).take N)) ∧ N ≤ 16 * pre.length) ∧ Below w.heap.size w W)
    ?hI ?hIx ?h0 ?hN
    (fun x a' W => ∃ Bx, w6.heap.size ≤ Bx ∧ Blk W Bx 28 (ints .u8 (nn (padB key nc x))) ∧ a' = { tmps := ((Value.agg (ints .u8 (nn key)).toArray) :: (Value.agg (ints .u8 (nn nc)).toArray) :: (Value.int .i64 (N : Int)) :: (Value.pointer (some ⟨w.heap.size, 0, none⟩)) :: (Value.pointer (some ⟨w.heap.size + 1, 0, none⟩)) :: (Value.pointer (some ⟨w.heap.size + 1 + 1, 0, none⟩)) :: (Value.string ⟨#[]⟩) :: (Value.pointer (some ⟨B7, 0, none⟩)) :: (Value.pointer (some ⟨Bx, 0, none⟩)) :: undef :: undef :: (Value.int .i64 (N : Int)) :: (Value.bool false) :: (Value.int .i64 (N : Int)) :: (Value.int .i64 (N : Int)) :: (Value.int .i64 (N : Int)) :: (Value.slice (some ⟨w.heap.size + 1 + 1 + 1, 0, none⟩) 0 N) :: (Value.agg (ints .u8 (nn key)).toArray) :: (Value.agg (ints .u8 (nn nc)).toArray) :: (Value.func (.func 45) #[] #[.pointer (some ⟨B7 + 1, 0, none⟩), .pointer (some ⟨B7 + 1 + 1, 0, none⟩)]) :: (Value.agg (ints .u8 (nn (padB key nc x))).toArray) :: undef :: undef :: undef :: undef :: undef :: undef :: undef :: undef :: undef :: undef :: undef :: undef :: undef :: undef :: undef :: []).toArray, defers := [] })
    ?hAx ?assign ?body ?stop
  case hI =>
    refine OwnFrom.and ?_ (ownFrom_below (Nat.le_refl _) (by omega))
    rintro s A B row ⟨h7, ho, h2, hlt, hMs⟩ hg hr
    exact ⟨h7.kept hg (fun r e => (hr r e).2), ho.kept hg (fun r e => (hr r e).2), h2.kept hg (fun r e => (hr r e).2), hlt, Nat.le_trans hMs hg.size⟩
  case hIx =>
    refine OwnFrom.and ?_ (ownFrom_below (Nat.le_refl _) (by omega))
    rintro s A B row ⟨h7, ho, hle⟩ hg hr
    exact ⟨h7.kept hg (fun r e => (hr r e).2), ho.kept hg (fun r e => (hr r e).2), hle⟩
  case h0 => exact ⟨⟨r7, ro, r2, r00, Nat.le_refl _⟩, rb⟩
  case hN =>
    rintro pre W ⟨⟨_, _, _, hlt, _⟩, _⟩
    omega
  case hAx =>
    rintro x a' s W W' row ⟨Bx, q1, q2, q3⟩ hg hr
    exact ⟨Bx, q1, q2.kept hg (fun r e => (hr r e).2), q3⟩
  case assign =>
    rintro l pre x W K ⟨⟨h7, ho, h2, hlt, hMs⟩, hb⟩ hK
    have HKK := Lib.hid hK
    have hpl := padB_len key nc x
    have HPL := Lib.hid hpl
    have hz := Blk.new' W 28 (ints .u8 (nn (zerN 16))) rfl
    clear hK hpl
    rw [fold_one]
    simp only [List.setIfInBounds_toArray, List.set_cons_succ, List.set_cons_zero]
    gi_wp2_with (first | (refine wpListIn_alloc_atR l rfl 28 rfl _ _ (alloc_b16 _) ?_) | (refine wpListIn_store_blkR l rfl 28 _ _ rfl W.heap.size (ints .u8 (nn (padB key nc x))) rfl rfl hz (by rw [size_b16, ints_length, nn_length, HPL.out]) (by rw [ints_length, ints_length, nn_length, nn_length, HPL.out, zerN_len]) (ints_one _ _) ?_))
    have hz' := hz.row (ints .u8 (nn (padB key nc x))) (by rw [ints_length, ints_length, nn_length, nn_length, HPL.out, zerN_len])
    have hbn : Below W.heap.size W ((W.alloc (.cells (ints .u8 (nn (zerN 16))).toArray 28)).setRow W.heap.size (ints .u8 (nn (padB key nc x))).toArray) := below_setRow ((Below.refl _ _).alloc (Nat.le_refl _) _) (Nat.le_refl _) _
    exact HKK.out _ _ ((KeepsOthers.of_below hbn).from _) (KpB.of_below hbn) ⟨⟨h7.below hbn h7.lt, ho.keep hbn, h2.below hbn h2.lt, hlt, Nat.le_trans hMs hbn.size⟩, hb.trans (hbn.mono hb.size)⟩ ⟨W.heap.size, hMs, hz', rfl⟩
  case body =>
    rintro l pre x a' W hl ⟨⟨h7, ho, h2, hlt, hMs⟩, hb⟩ ⟨Bx, hBx, hx, rfl⟩
    have hpl := padB_len key nc x
    have hpb := padB_bys (key := key) (nc := nc) x
    have hfl := flatP_len key nc pre
    have hsn := flatP_snoc key nc pre x
    have hfn := flatP_len key nc (pre ++ [x])
    rw [List.length_append, List.length_singleton] at hfn
    have hix := fun (j : Nat) (hj : j < 16) w => run_index_ints (P := Try.prog) 28 5 16 .u8 .i64 (nn (padB key nc x)) j Try.underlying28 ⟨_, Try.underlying5, rfl⟩ size_u8 (by rw [nn_length, hpl]) hj w
    have HIX := Lib.hid hix
    have HPL := Lib.hid hpl
    have HPB := Lib.hid hpb
    have HFL := Lib.hid hfl
    have HSN := Lib.hid hsn
    have HFN := Lib.hid hfn
    have Hlt := Lib.hid hlt
    have HMs := Lib.hid hMs
    clear hpl hpb hfl hsn hfn hix hlt hMs r0 r1 r2 r7 ro rb r00
    generalize flatP key nc (pre ++ [x]) = FN at *
    generalize flatP key nc pre = FL at *
    generalize padB key nc x = X at *
    generalize hq : 16 * pre.length = q at *
    have Hq := Lib.hid hq
    clear hq
    gi_wp2_with (refine wpListIn_load_blkR l rfl 28 _ rfl _ rfl hx Try.underlying28 rfl (by rw [size_b16, ints_length, nn_length, HPL.out]) ?_)
    gi_loopw [22] (fun i wr => ∃ j : Nat, j ≤ 16 ∧ i = .int .i64 (j : Int) ∧ Blk wr B7 52 [.slice (some ⟨w.heap.size + 1 + 1 + 1, 0, none⟩) (q + j) N] ∧ OwnB wr w.heap.size 5 (.slice (some ⟨w.heap.size + 1 + 1 + 1, 0, none⟩) (q + j) N) (nn (FL ++ X.take j)) ∧ Blk wr (w.heap.size + 1 + 1) 3 [.int .i64 (N : Int)] ∧ q + j < N ∧ Below w.heap.size w wr ∧ KeepsFrom w6.heap.size W wr ∧ KpB (B7 + 1 + 1) w6.heap.size W wr) (fun i _ => 16 - (intOf i).toNat)
    case atStart => exact ⟨0, by omega, rfl, h7, by rw [List.take_zero, List.append_nil]; exact ho, h2, by rw [Nat.add_zero]; exact Hlt.out, hb, KeepsFrom.refl _ _, KpB.refl _ _ _⟩
    case round =>
      obtain ⟨j, hj, rfl, g7, go, g2, glt, gb, gk, gp⟩ := hrel
      clear h7 ho h2 hb hx
      have hll : (nn (FL ++ X.take j)).length = q + j := by rw [nn_length, List.length_append, List.length_take, HPL.out, HFL.out]; omega
      by_cases h16 : j < 16
      · have hi := HIX.out j h16
        rw [nn_getD] at hi
        have hsn1 : X.take (j + 1) = X.take j ++ [X.getD j 0] := by
          rw [List.take_add_one, List.getElem?_eq_getElem (by rw [HPL.out]; exact h16), List.getD_eq_getElem?_getD, List.getElem?_eq_getElem (by rw [HPL.out]; exact h16)]
          rfl
        have Hsn1 := Lib.hid hsn1
        have c7 := g7.cell 0
        have f7 := g7.free 0
        have c2 := g2.cell 0
        simp only [List.getElem?_cons_zero] at c7 c2
        clear hsn1
        generalize X.getD j 0 = xv at *
        have hrow : (wr.alloc (.cells #[.int .u8 (xv : Int)] 5)).ownsRow w.heap.size 5 1 (.slice (some ⟨w.heap.size + 1 + 1 + 1, 0, none⟩) (q + j) N) (q + j) (ints .u8 (nn (FL ++ X.take j))) := by
          have := go.alloc (.cells #[.int .u8 (xv : Int)] 5)
          unfold OwnB at this
          rw [hll] at this
          exact this
        have hnew : ∀ jj u, [Value.int .u8 (xv : Int)][jj]? = some u → (wr.alloc (.cells #[.int .u8 (xv : Int)] 5)).cell? ((⟨wr.heap.size, 0, none⟩ : Addr).add jj) = some u := fun jj u h => by
          rw [Addr.add_mid]
          exact (Blk.new' wr 5 [Value.int .u8 (xv : Int)] rfl).whole jj u h
        have hrN : q + j + 1 ≤ N := by omega
        have hone : ∀ u ∈ [Value.int .u8 (xv : Int)], u.oneCell' = true := by simp [Value.oneCell']
        have HRow := Lib.hid hrow
        have HNew := Lib.hid hnew
        have HRN := Lib.hid hrN
        have HOne := Lib.hid hone
        have HLL := Lib.hid hll
        have k7 := (g7.alloc (.cells #[.int .u8 (xv : Int)] 5))
        have k2 := (g2.alloc (.cells #[.int .u8 (xv : Int)] 5))
        have d16 : (j : Int) < 16 := by omega
        clear hrow hnew hrN hone hll
        by_cases he : q + j + 1 = N
        · have e1 : (q : Int) + (j : Int) + 1 = (N : Int) := by omega
          have He := Lib.hid he
          clear he
          gi_wp2_with (gi_at_builtin; refine wpListIn_append_fits _ rfl _ _ 52 rfl w.heap.size 5 i0 1 Try.underlying52 hi0 hz1 (w.heap.size + 1 + 1 + 1) (q + j) N _ rfl HRow.out ⟨wr.heap.size, 0, none⟩ 1 1 [.int .u8 (xv : Int)] rfl rfl HNew.out HOne.out HRN.out ?_; intro w5 hown5 hg5; have p7 := k7.grown hg5 (by omega); have p2 := k2.grown hg5 (by omega); have s7 := p7.set 0 (.slice (some ⟨w.heap.size + 1 + 1 + 1, 0, none⟩) (q + j + 1) N); have sc2 : ∀ V, (w5.setCell ⟨B7, 0, none⟩ V).cell? ⟨w.heap.size + 1 + 1, 0, none⟩ = some (.int .i64 (N : Int)) := fun V => ((p2.other (a := ⟨B7, 0, none⟩) (show B7 ≠ w.heap.size + 1 + 1 by omega) V).cell 0); have pc7 := p7.cell 0; have pf7 := p7.free 0; have sc7 := s7.cell 0; simp only [List.getElem?_cons_zero, List.set_cons_zero] at pc7 sc7)
          have hl2 : nn (FL ++ X.take (j + 1)) = nn (FL ++ X.take j) ++ [(xv : Int)] := by rw [Hsn1.out]; simp [nn]
          have ow : OwnB w5 w.heap.size 5 (.slice (some ⟨w.heap.size + 1 + 1 + 1, 0, none⟩) (q + j + 1) N) (nn (FL ++ X.take (j + 1))) := by
            rw [hl2]
            unfold OwnB
            rw [List.length_append, HLL.out, ints_app]
            exact hown5
          have ow2 := ow.other (b := B7) (by omega) (.slice (some ⟨w.heap.size + 1 + 1 + 1, 0, none⟩) (q + j + 1) N)
          have bel := ((gb.alloc gb.size (.cells #[.int .u8 (xv : Int)] 5)).grown hg5 (by have := gb.size; simp; omega) (fun k e => by cases e; omega)).setCell (p := ⟨B7, 0, none⟩) (show w.heap.size ≤ B7 by omega) (.slice (some ⟨w.heap.size + 1 + 1 + 1, 0, none⟩) (q + j + 1) N)
          have kf := gk.trans (((KeepsOthers.alloc wr (.cells #[.int .u8 (xv : Int)] 5)).from _).trans ((KeepsFrom.of_grownBy hg5 (fun i e => by cases e; omega)).trans ((KeepsOthers.setCell w5 ⟨B7, 0, none⟩ (.slice (some ⟨w.heap.size + 1 + 1 + 1, 0, none⟩) (q + j + 1) N)).from w6.heap.size)))
          have he := He.out
          have htk : FN.take N = FL ++ X.take (j + 1) := by
            rw [HSN.out, List.take_append, List.take_of_length_le (by rw [HFL.out]; omega), HFL.out, show N - q = j + 1 by omega]
          refine ⟨rfl, kf, ⟨⟨?_, ?_, ?_⟩, bel⟩⟩
          · have := s7
            rw [show ([Value.slice (some ⟨w.heap.size + 1 + 1 + 1, 0, none⟩) (q + j) N]).set 0 (.slice (some ⟨w.heap.size + 1 + 1 + 1, 0, none⟩) (q + j + 1) N) = [.slice (some ⟨w.heap.size + 1 + 1 + 1, 0, none⟩) (q + j + 1) N] from rfl] at this
            rw [show ([Value.slice (some ⟨w.heap.size + 1 + 1 + 1, 0, none⟩) N N]) = [.slice (some ⟨w.heap.size + 1 + 1 + 1, 0, none⟩) (q + j + 1) N] by rw [he]]
            exact this
          · rw [htk]
            rw [show (Value.slice (some ⟨w.heap.size + 1 + 1 + 1, 0, none⟩) N N) = .slice (some ⟨w.heap.size + 1 + 1 + 1, 0, none⟩) (q + j + 1) N by rw [he]]
            exact ow2
          · rw [List.length_append, List.length_singleton, Nat.mul_add, Hq.out]
            omega
        · have e1 : ¬ ((q : Int) + (j : Int) + 1 = (N : Int)) := by omega
          have He := Lib.hid he
          clear he
          gi_wp2_with (gi_at_builtin; refine wpListIn_append_fits _ rfl _ _ 52 rfl w.heap.size 5 i0 1 Try.underlying52 hi0 hz1 (w.heap.size + 1 + 1 + 1) (q + j) N _ rfl HRow.out ⟨wr.heap.size, 0, none⟩ 1 1 [.int .u8 (xv : Int)] rfl rfl HNew.out HOne.out HRN.out ?_; intro w5 hown5 hg5; have p7 := k7.grown hg5 (by omega); have p2 := k2.grown hg5 (by omega); have s7 := p7.set 0 (.slice (some ⟨w.heap.size + 1 + 1 + 1, 0, none⟩) (q + j + 1) N); have sc2 : ∀ V, (w5.setCell ⟨B7, 0, none⟩ V).cell? ⟨w.heap.size + 1 + 1, 0, none⟩ = some (.int .i64 (N : Int)) := fun V => ((p2.other (a := ⟨B7, 0, none⟩) (show B7 ≠ w.heap.size + 1 + 1 by omega) V).cell 0); have pc7 := p7.cell 0; have pf7 := p7.free 0; have sc7 := s7.cell 0; simp only [List.getElem?_cons_zero, List.set_cons_zero] at pc7 sc7)
          have hl2 : nn (FL ++ X.take (j + 1)) = nn (FL ++ X.take j) ++ [(xv : Int)] := by rw [Hsn1.out]; simp [nn]
          have ow : OwnB w5 w.heap.size 5 (.slice (some ⟨w.heap.size + 1 + 1 + 1, 0, none⟩) (q + j + 1) N) (nn (FL ++ X.take (j + 1))) := by
            rw [hl2]
            unfold OwnB
            rw [List.length_append, HLL.out, ints_app]
            exact hown5
          have ow2 := ow.other (b := B7) (by omega) (.slice (some ⟨w.heap.size + 1 + 1 + 1, 0, none⟩) (q + j + 1) N)
          have bel := ((gb.alloc gb.size (.cells #[.int .u8 (xv : Int)] 5)).grown hg5 (by have := gb.size; simp; omega) (fun k e => by cases e; omega)).setCell (p := ⟨B7, 0, none⟩) (show w.heap.size ≤ B7 by omega) (.slice (some ⟨w.heap.size + 1 + 1 + 1, 0, none⟩) (q + j + 1) N)
          have kf := gk.trans (((KeepsOthers.alloc wr (.cells #[.int .u8 (xv : Int)] 5)).from _).trans ((KeepsFrom.of_grownBy hg5 (fun i e => by cases e; omega)).trans ((KeepsOthers.setCell w5 ⟨B7, 0, none⟩ (.slice (some ⟨w.heap.size + 1 + 1 + 1, 0, none⟩) (q + j + 1) N)).from w6.heap.size)))
          have kp := gp.trans ((KpB.alloc _ _ wr (.cells #[.int .u8 (xv : Int)] 5)).trans ((KpB.grown hg5 (by omega) (by omega)).trans (KpB.grown (grownBy_setCell' w5 B7 (.slice (some ⟨w.heap.size + 1 + 1 + 1, 0, none⟩) (q + j + 1) N)) (by omega) (by omega))))
          go_roundw
          case rel => exact ⟨j + 1, by omega, by go_num, s7, ow2, (p2.other (a := ⟨B7, 0, none⟩) (show B7 ≠ w.heap.size + 1 + 1 by omega) _), by have := He.out; omega, bel, kf, kp⟩
          case measure => simp [intOf]; omega
      · obtain rfl : j = 16 := by omega
        gi_wp2
        have hX : X.take 16 = X := List.take_of_length_le (by rw [HPL.out]; omega)
        rw [hX, ← HSN.out] at go
        refine ⟨gk, gp, ⟨⟨?_, ?_, g2, ?_, Nat.le_trans HMs.out gk.size⟩, gb⟩⟩
        · rw [List.length_append, List.length_singleton, Nat.mul_add, Hq.out]; exact g7
        · rw [List.length_append, List.length_singleton, Nat.mul_add, Hq.out]; exact go
        · rw [List.length_append, List.length_singleton, Nat.mul_add, Hq.out]; exact glt
  case stop =>
    rintro D pre W hD ⟨k, rfl⟩ ⟨⟨h7, ho, hle⟩, hb⟩ hK
    refine wpIn_wide.2 ?_
    have c7 := h7.cell 0
    simp only [List.getElem?_cons_zero] at c7
    rw [flatP_take key nc k N (by rw [List.length_range] at hle; exact hle), HPA.out] at ho
    clear r0 r1 r2 r7 ro rb r00 hle h7
    go_wp2_with (refine wpList_string_own rfl 52 9 5 _ rfl w.heap.size _ _ rfl Try.underlying52 Try.underlying5 Try.underlying9 ho ?_)
    rw [Exit.noGoto_ret]
    have hz6 : w.heap.size ≤ D := by omega
    refine ⟨by simp, .inl ⟨_, _, rfl, run_takeDeferred hK, ?_⟩⟩
    exact ⟨_, results_tmp rfl _ _ _, rfl, hb.trans (belowK_b (w := w) (Nat.le_refl _) _ D _ _ hz6 hK rfl rfl)⟩

set_option maxRecDepth 100000 in
set_option maxHeartbeats 1000000 in
theorem s_Pad_none (V U : Array Value) (i : Int) (w : World) (hi : i ≤ 0) :
    Calls Try.prog 22 #[.agg V, .agg U, .int .i64 i] w fun e w' => e = .returned (.string (bs [])) ∧ Below w.heap.size w w' := by
  have kb : Below w.heap.size w (((w.alloc (.cells V 23)).alloc (.cells U 28)).alloc (.cells #[.int .i64 i] 3)) := (((Below.refl _ _).alloc (Nat.le_refl _) _).alloc (by simp) _).alloc (by simp; omega) _
  go_enter Try.func22, Try.ntmps22
  go_wp2
  go_step3
  go_wp2
  rw [Exit.noGoto_ret]
  go_ret
  exact ⟨rfl, kb⟩
end Go.Proofs.Ytgagafefhmofjaa
