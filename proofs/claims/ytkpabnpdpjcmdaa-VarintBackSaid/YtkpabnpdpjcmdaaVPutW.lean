/- Walk of varint's Put. -/
import Derived.Test.YtkpabnpdpjcmdaaVPut
import Derived.Test.YtkpabnpdpjcmdaaRound
namespace Go.Proofs.Ytkpabnpdpjcmdaa
open Go.RowKit Go.Shelf
set_option linter.unusedVariables false

attribute [local go_sem] Oper.semAt_some

def zerN (n : Nat) : List Nat := List.replicate n 0
theorem make_10 (w : World) : (Instr.makeSlice 37 (.int .i64 0) (.int .i64 10)).run Try.prog w = .ok (.slice (some ⟨w.heap.size, 0, none⟩) 0 10) (w.alloc (.cells (ints .u8 (nn (zerN 10))).toArray 5)) := by kernel_rfl
theorem or_128 (r : Fin 128) : bits .or .u8 (r.val : Int) 128 = (r.val : Int) + 128 := by
  have h' : ∀ m : Fin 128, bits .or .u8 (m.val : Int) 128 = (m.val : Int) + 128 := by decide +kernel
  exact h' r
set_option maxRecDepth 100000 in
set_option maxHeartbeats 2000000 in
theorem v_Put (m : Nat) (w : World) (hm : m < 18446744073709551616) :
    Calls Try.prog 15 #[.int .u64 (m : Int)] w fun e w' => e = .returned (.string (tx (putL m))) ∧ Below w.heap.size w w' := by
  have hmk := make_10
  refine (callsIn_wide (n := 9)).1 (callsIn_of_wp_marks Try.func15 rfl trivial ?_ rfl)
  simp only [Try.ntmps15, List.size_toArray, List.length_cons, List.length_nil, Nat.reduceAdd, Nat.reduceSub, Array.replicate_succ, Array.replicate_zero, List.push_toArray, List.append_toArray, List.nil_append, List.cons_append]
  refine wpIn_wide.2 ?_
  go_wp2_with (go_at_call 23; (with_reducible refine (v_sevens _ _).mono ?_); rintro e w9 ⟨rfl, rfl⟩)
  have K1 : Blk (((w.alloc (.cells (ints .u8 (nn (zerN 10))).toArray 5)).alloc (.cells #[.slice (some ⟨w.heap.size, 0, none⟩) 0 10] 37)).alloc (.cells #[.int .u64 (m : Int)] 22)) (w.heap.size + 1) 37 [.slice (some ⟨w.heap.size, 0, none⟩) 0 10] := (Blk.new2 w _ 37 [.slice (some ⟨w.heap.size, 0, none⟩) 0 10] rfl).alloc _
  have K2 : Blk (((w.alloc (.cells (ints .u8 (nn (zerN 10))).toArray 5)).alloc (.cells #[.slice (some ⟨w.heap.size, 0, none⟩) 0 10] 37)).alloc (.cells #[.int .u64 (m : Int)] 22)) (w.heap.size + 1 + 1) 22 [.int .u64 (m : Int)] := by
    have := Blk.new2 (w.alloc (.cells (ints .u8 (nn (zerN 10))).toArray 5)) (.cells #[.slice (some ⟨w.heap.size, 0, none⟩) 0 10] 37) 22 [.int .u64 (m : Int)] rfl
    rw [World.size_alloc] at this
    exact this
  have K0 : OwnB (((w.alloc (.cells (ints .u8 (nn (zerN 10))).toArray 5)).alloc (.cells #[.slice (some ⟨w.heap.size, 0, none⟩) 0 10] 37)).alloc (.cells #[.int .u64 (m : Int)] 22)) w.heap.size 5 (.slice (some ⟨w.heap.size, 0, none⟩) 0 10) (nn []) :=
    ((OwnB.ofBlk (l := []) (nn (zerN 10)) (Blk.new' w 5 (ints .u8 ([] ++ nn (zerN 10))) rfl) (Nat.le_refl _) rfl (by decide)).alloc _).alloc _
  have Kb : Below w.heap.size w (((w.alloc (.cells (ints .u8 (nn (zerN 10))).toArray 5)).alloc (.cells #[.slice (some ⟨w.heap.size, 0, none⟩) 0 10] 37)).alloc (.cells #[.int .u64 (m : Int)] 22)) := (((Below.refl _ _).alloc (Nat.le_refl _) _).alloc (by simp) _).alloc (by simp; omega) _
  have Kn : (((w.alloc (.cells (ints .u8 (nn (zerN 10))).toArray 5)).alloc (.cells #[.slice (some ⟨w.heap.size, 0, none⟩) 0 10] 37)).alloc (.cells #[.int .u64 (m : Int)] 22)).heap.size = w.heap.size + 3 := by simp
  clear hmk
  generalize World.alloc (World.alloc (World.alloc w _) _) _ = w4 at *
  have hKb : ∀ (W : World) (l : Nat) (o o' : Obj), w4.heap.size ≤ l → W.heap[l]? = some o → o.isCells = false → o.isWalk = false → ∀ o2, W.heap[w.heap.size + 1 + 1]? = some o2 → (W.putObj l o').heap[w.heap.size + 1 + 1]? = some o2 := fun W l o o' hl _ _ _ o2 ho2 =>
    (World.putObj_heap_other (by omega)).trans ho2
  refine (wpIn_wide (n := 9)).1 ?_
  refine wpIn_rangeFunc_ownF (F := Fence.wide) (n := 9) rfl (by omega) (gf := 25) (lb := #[.pointer (some ⟨w.heap.size + 1 + 1, 0, none⟩)]) rfl trivial (enters_of Try.func25 (by kernel_rfl) rfl)
    (v_stops 8 (w.heap.size + 1 + 1) m hm (by omega) w4 K2) (fun h k o ho => k o (h o ho)) hKb (Below.refl _ _) (fun _ => rfl)
    (fun pre W => (Blk W (w.heap.size + 1) 37 [.slice (some ⟨w.heap.size, 0, none⟩) pre.length 10] ∧ OwnB W w.heap.size 5 (.slice (some ⟨w.heap.size, 0, none⟩) pre.length 10) (nn (pre.map sevB))) ∧ Below w.heap.size w W)
    (fun _ _ _ => False)
    (OwnFrom.and (Own.from (fun s A B row hs hg hr => ⟨hs.1.kept hg hr, hs.2.kept hg hr⟩) _) (ownFrom_below (Nat.le_refl _) (by omega)))
    (fun _ _ _ _ _ hs _ _ => hs)
    ⟨⟨K1, K0⟩, Kb⟩
    (fun x => { tmps := #[.int .u64 (m : Int), undef, .string ⟨#[]⟩, .pointer (some ⟨w.heap.size + 1, 0, none⟩), .int .u8 (x.1.val : Int), .bool x.2, .slice (some ⟨w.heap.size, 0, none⟩) 0 10, .int .u64 (m : Int), .func (.func 25) #[] #[.pointer (some ⟨w.heap.size + 1 + 1, 0, none⟩)], .int .u8 (x.1.val : Int), .bool x.2, undef, undef, undef, undef, undef, undef, undef, undef, undef, undef], defers := [] }) ?assign ?body ?done ?stop
  case assign =>
    intro l x W K hK
    gi_wp2
    exact hK
  case body =>
    rintro l pre ⟨r, b⟩ W ⟨⟨h1, h2⟩, hb⟩ hlt
    have hll : (nn (pre.map sevB)).length = pre.length := by rw [nn_length, List.length_map]
    have hrow : ∀ y : Int, (W.alloc (.cells #[.int .u8 y] 5)).ownsRow w.heap.size 5 1 (.slice (some ⟨w.heap.size, 0, none⟩) pre.length 10) pre.length (ints .u8 (nn (pre.map sevB))) := fun y => by
      have := h2.alloc (.cells #[.int .u8 y] 5)
      unfold OwnB at this
      rw [hll] at this
      exact this
    have hnew : ∀ y jj u, [Value.int .u8 y][jj]? = some u → (W.alloc (.cells #[.int .u8 y] 5)).cell? ((⟨W.heap.size, 0, none⟩ : Addr).add jj) = some u := fun y jj u h => by
      rw [Addr.add_mid]
      exact (Blk.new' W 5 [Value.int .u8 y] rfl).whole jj u h
    have hone : ∀ y : Int, ∀ u ∈ [Value.int .u8 y], u.oneCell' = true := by simp [Value.oneCell']
    have c1 := h1.cell 0
    have f1 := h1.free 0
    simp only [List.getElem?_cons_zero] at c1
    have hsn : (pre ++ [(r, b)]).map sevB = pre.map sevB ++ [sevB (r, b)] := by simp
    have k1 := fun y : Int => h1.alloc (.cells #[.int .u8 y] 5)
    have h128 := or_128 r
    have HRow := Lib.hid hrow
    have HNew := Lib.hid hnew
    have HOne := Lib.hid hone
    have HLL := Lib.hid hll
    have HSN := Lib.hid hsn
    have hfit : pre.length + 1 ≤ 10 := by omega
    have K1' := Lib.hid k1
    have hrowO := hrow
    clear hrow hnew hone hll hsn k1 K1 K2 K0 Kb
    have key : ∀ (y : Nat) (w5 : World), y = sevB (r, b) → w5.ownsRow w.heap.size 5 1 (.slice (some ⟨w.heap.size, 0, none⟩) (pre.length + 1) 10) (pre.length + 1) (ints .u8 (nn (pre.map sevB)) ++ [.int .u8 (y : Int)]) → (W.alloc (.cells #[.int .u8 (y : Int)] 5)).grownBy w5 (some w.heap.size) →
        KeepsOthers W (w5.setCell ⟨w.heap.size + 1, 0, none⟩ (.slice (some ⟨w.heap.size, 0, none⟩) (pre.length + 1) 10)) ∧ (∀ o, W.heap[w.heap.size + 1 + 1]? = some o → (w5.setCell ⟨w.heap.size + 1, 0, none⟩ (.slice (some ⟨w.heap.size, 0, none⟩) (pre.length + 1) 10)).heap[w.heap.size + 1 + 1]? = some o) ∧
        (Blk (w5.setCell ⟨w.heap.size + 1, 0, none⟩ (.slice (some ⟨w.heap.size, 0, none⟩) (pre.length + 1) 10)) (w.heap.size + 1) 37 [.slice (some ⟨w.heap.size, 0, none⟩) (pre ++ [(r, b)]).length 10] ∧ OwnB (w5.setCell ⟨w.heap.size + 1, 0, none⟩ (.slice (some ⟨w.heap.size, 0, none⟩) (pre.length + 1) 10)) w.heap.size 5 (.slice (some ⟨w.heap.size, 0, none⟩) (pre ++ [(r, b)]).length 10) (nn ((pre ++ [(r, b)]).map sevB))) ∧
        Below w.heap.size w (w5.setCell ⟨w.heap.size + 1, 0, none⟩ (.slice (some ⟨w.heap.size, 0, none⟩) (pre.length + 1) 10)) := by
      intro y w5 hy hown5 hg5
      have ow : OwnB w5 w.heap.size 5 (.slice (some ⟨w.heap.size, 0, none⟩) (pre.length + 1) 10) (nn ((pre ++ [(r, b)]).map sevB)) := by
        rw [HSN.out, ← hy, nn_app]
        unfold OwnB
        rw [List.length_append, HLL.out, ints_app]
        exact hown5
      have p1 := (K1'.out (y : Int)).grown hg5 (by omega)
      have s1 := p1.set 0 (.slice (some ⟨w.heap.size, 0, none⟩) (pre.length + 1) 10)
      have hcell : ∀ (j : Nat) (o : Obj), some w.heap.size = some j → (W.alloc (.cells #[.int .u8 (y : Int)] 5)).heap[j]? = some o → o.isCells = true := by
        intro j o hj ho
        cases hj
        rcases (hrowO y).2 with ⟨hv, _⟩ | ⟨g, cap, cur, hv, _, hh, _⟩
        · cases hv
        · cases hv
          rw [hh] at ho
          cases ho
          rfl
      refine ⟨(KeepsOthers.alloc W _).trans ((KeepsOthers.of_grownBy hg5 hcell).trans (KeepsOthers.setCell w5 _ _)), fun o ho => ?_, ⟨by rw [List.length_append]; exact s1, by rw [List.length_append]; exact ow.other (by omega) _⟩, ?_⟩
      · have hlt2 := (Array.getElem?_eq_some_iff.1 ho).1
        rw [(grownBy_setCell' w5 (w.heap.size + 1) (.slice (some ⟨w.heap.size, 0, none⟩) (pre.length + 1) 10)).block (w.heap.size + 1 + 1) (by have := hg5.size; simp at this; omega) (by simp), hg5.block (w.heap.size + 1 + 1) (by simp; omega) (by simp; omega), Below.heap_alloc W _ _ hlt2]
        exact ho
      exact ((hb.alloc hb.size (.cells #[.int .u8 (y : Int)] 5)).grown hg5 (by have := hb.size; simp; omega) (fun k e => by cases e; omega)).setCell (p := ⟨w.heap.size + 1, 0, none⟩) (show w.heap.size ≤ w.heap.size + 1 by omega) _
    have Key := Lib.hid key
    clear key hrowO h1 h2 hb
    obtain ⟨i0, hi0, hz0, hz1, hz2⟩ := info_parts info_u8
    cases b with
    | true =>
      gi_wp2_with (gi_at_builtin; refine wpListIn_append_fits _ rfl _ _ 37 rfl w.heap.size 5 i0 1 Try.underlying37 hi0 hz1 w.heap.size pre.length 10 _ rfl (HRow.out _) ⟨W.heap.size, 0, none⟩ 1 1 [.int .u8 (r.val : Int)] rfl rfl (HNew.out _) (HOne.out _) hfit ?_; intro w5 hown5 hg5; have p1 := (K1'.out (r.val : Int)).grown hg5 (by omega); have pc1 := p1.cell 0; have pf1 := p1.free 0; simp only [List.getElem?_cons_zero] at pc1)
      exact Key.out r.val w5 rfl hown5 hg5
    | false =>
      gi_wp2_with (gi_at_builtin; refine wpListIn_append_fits _ rfl _ _ 37 rfl w.heap.size 5 i0 1 Try.underlying37 hi0 hz1 w.heap.size pre.length 10 _ rfl (HRow.out _) ⟨W.heap.size, 0, none⟩ 1 1 [.int .u8 ((r.val : Int) + 128)] rfl rfl (HNew.out _) (HOne.out _) hfit ?_; intro w5 hown5 hg5; have p1 := (K1'.out ((r.val : Int) + 128)).grown hg5 (by omega); have pc1 := p1.cell 0; have pf1 := p1.free 0; simp only [List.getElem?_cons_zero] at pc1)
      exact Key.out (r.val + 128) w5 rfl hown5 hg5
  case done =>
    rintro D ys W hD rfl ⟨⟨h1, h2⟩, hb⟩ hK
    have c1 := h1.cell 0
    simp only [List.getElem?_cons_zero] at c1
    clear K1 K2 K0 Kb hKb
    go_wp2_with (refine wpList_string_own rfl 37 9 5 _ rfl w.heap.size _ _ rfl Try.underlying37 Try.underlying5 Try.underlying9 h2 ?_)
    refine ⟨by simp, .inl ⟨_, _, rfl, run_takeDeferred hK, ?_⟩⟩
    exact ⟨_, results_tmp rfl _ _ _, rfl, hb.trans (belowK_b (w := w) (Nat.le_refl _) _ D _ _ (by omega) hK rfl rfl)⟩
  case stop =>
    rintro D c pre W _ _ h _
    exact h.elim
end Go.Proofs.Ytkpabnpdpjcmdaa
