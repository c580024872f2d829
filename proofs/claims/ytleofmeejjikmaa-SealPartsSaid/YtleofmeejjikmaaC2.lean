/- Walks of cipher's columns, put, turned. -/
import Derived.Test.YtleofmeejjikmaaC1
import Derived.Test.YtleofmeejjikmaaG1
import Derived.Test.YtleofmeejjikmaaG2
import Derived.WalkKit
import Derived.ProofKit
import Derived.OpenShut
import Derived.ChangeOld
import Derived.Below
import Derived.Laws.EntriesVeiled
namespace Go.Proofs.Ytleofmeejjikmaa
open Go.RowKit Go.Shelf
set_option linter.unusedVariables false

attribute [local go_sem] Oper.semAt_some

/-- the first k columns' numbers -/
def cols (k : Nat) : List (Fin 4) := (List.finRange 4).take k
theorem cols_succ {k : Nat} (h : k < 4) : cols (k + 1) = cols k ++ [⟨k, h⟩] := by
  have h' : ∀ m : Fin 4, cols (m.val + 1) = cols m.val ++ [m] := by decide
  exact h' ⟨k, h⟩
theorem cols_len (k : Nat) (h : k ≤ 4) : (cols k).length = k := by simp [cols]; omega
theorem size_b16 : (Try.prog.info? 23).map (·.size) = some 16 := by kernel_rfl

set_option maxRecDepth 100000 in
set_option maxHeartbeats 2000000 in
/-- the iterator, for every body that keeps its block -/
theorem c_cols_in (n l Bs : Nat) (bl : List Nat) (hbl : bl.length = 16) (hby : Bys bl) (J Jx : List (Fin 4) → World → Prop) (hn : 2 ≤ n)
    (hY : ∀ pre x W, J pre W → pre.length < 4 → YieldAt Fence.wide (n - 1) Try.prog l #[.int .i64 ((x : Fin 4).val : Int), .int .u32 ((kw bl x.val : Nat) : Int)] W fun e W' =>
      (e = .returned (.bool true) ∧ J (pre ++ [x]) W' ∧ (∀ o, W.heap[Bs]? = some o → W'.heap[Bs]? = some o)) ∨ (e = .returned (.bool false) ∧ Jx (pre ++ [x]) W'))
    (W : World) (hB : Blk W Bs 23 (ints .u8 (nn bl))) (h0 : J [] W) :
    CallsIn Fence.wide n Try.prog 82 #[.func (.yield l) #[] #[], .pointer (some ⟨Bs, 0, none⟩)] W fun e W' => (∃ v, e = .returned v) ∧
      ((∃ ys, ys = cols 4 ∧ J ys W') ∨ (∃ pre, (∃ k, k ≤ 4 ∧ pre = cols k) ∧ Jx pre W')) := by
  have HBL := Lib.hid hbl
  clear hbl
  refine callsIn_of_wp Try.func82 rfl trivial ?_ rfl
  simp only [Try.ntmps82, List.size_toArray, List.length_cons, List.length_nil, Nat.reduceAdd, Nat.reduceSub, Array.replicate_succ, Array.replicate_zero, List.push_toArray, List.append_toArray, List.nil_append, List.cons_append]
  gi_wp2
  gi_loopw [3, 4] (fun _ i wr => ∃ k : Nat, k ≤ 4 ∧ i = .int .i64 k ∧ J (cols k) wr ∧ Blk wr Bs 23 (ints .u8 (nn bl)))
    (fun _ i _ => 4 - (intOf i).toNat)
  case atStart => exact ⟨0, Nat.zero_le _, rfl, h0, hB⟩
  case round =>
    obtain ⟨k, hk, rfl, hJs, hb⟩ := hrel
    by_cases hlt : k < 4
    · have hWc : ∀ cap, Calls Try.prog 60 #[.slice (some ⟨Bs, 4 * k, none⟩) 4 cap] wr fun e w' => e = .returned (.int .u32 ((kw bl k : Nat) : Int)) ∧ wr = w' := fun cap =>
        c_word Bs (4 * k) cap (four bl k) wr (four_bys hby k) (fun j hj => by rw [four_getD _ _ _ hj]; exact hb.nat (by rw [HBL.out]; omega))
      have hsl := fun w' => run_sliceAt_cut (P := Try.prog) w' 23 5 16 Bs (4 * k) (4 * k + 4) (4 * (k : Int)) (4 * (k : Int) + 4) Try.underlying23 size_u8 (by omega) (by omega) (by omega) (by omega) (by omega)
      rw [show 4 * k + 4 - 4 * k = 4 by omega] at hsl
      have HW := Lib.hid hWc
      clear hWc
      obtain ⟨fn, tmps, assign, body, hy, hR⟩ := hY _ ⟨k, hlt⟩ wr hJs (by rw [cols_len _ (by omega)]; exact hlt)
      dsimp only at hy
      have i1 : (0 : Int) ≤ 4 * (k : Int) := by omega
      have i6 : (k : Int) < 4 := by omega
      gi_wp2_with fail
      refine ⟨trivial, fun _ => by omega, (callsIn_wide.2 (HW.out _)).mono ?_⟩
      rintro e w' ⟨rfl, rfl⟩
      have hd : (Fence.wide.depth.isSome = true) = False := by simp [Fence.wide]
      gi_wp2
      first | refine hR.mono ?_ | refine ⟨fun _ => by omega, hR.mono ?_⟩
      rintro e W3 (⟨rfl, hJ3, hk3⟩ | ⟨rfl, hJx3⟩)
      · gi_wp2
        go_roundw
        case rel => exact ⟨k + 1, by omega, by simp, by rw [cols_succ hlt]; exact hJ3, hk3 _ hb⟩
        case measure => simp [intOf]; omega
      · gi_wp2
        refine bodyPost_ret (results_none rfl _ _ _) rfl ?_
        exact ⟨⟨_, rfl⟩, .inr ⟨_, ⟨k + 1, by omega, (cols_succ hlt).symm⟩, hJx3⟩⟩
    · obtain rfl : k = 4 := by omega
      gi_wp2
      go_end0
      exact ⟨⟨_, rfl⟩, .inl ⟨_, rfl, hJs⟩⟩

set_option maxRecDepth 100000 in
theorem c_columns (V : Array Value) (w : World) :
    Calls Try.prog 77 #[.agg V] w fun e w' => e = .returned (.func (.func 82) #[] #[.pointer (some ⟨w.heap.size, 0, none⟩)]) ∧ w' = w.alloc (.cells V 23) := by
  go_enter Try.func77, Try.ntmps77
  go_wp2
  go_ret
  exact ⟨rfl, rfl⟩
theorem c_stops (n Bs : Nat) (bl : List Nat) (hbl : bl.length = 16) (hby : Bys bl) (hn : 2 ≤ n) (w : World) (hB : Blk w Bs 23 (ints .u8 (nn bl))) :
    SeqStopsK Fence.wide n Try.prog 82 #[.pointer (some ⟨Bs, 0, none⟩)] (fun x : Fin 4 => #[Value.int .i64 (x.val : Int), Value.int .u32 ((kw bl x.val : Nat) : Int)]) (fun A B => ∀ o, A.heap[Bs]? = some o → B.heap[Bs]? = some o) (fun ys => ys = cols 4) (fun pre => ∃ k, k ≤ 4 ∧ pre = cols k) 4 w := fun l J Jx W hW _ _ hY h0 =>
  c_cols_in n l Bs bl hbl hby J Jx hn hY W (hB.below hW hB.lt) h0

/-- b with w as its column c, the first i bytes of it -/
def putP (b : List Nat) (c w : Nat) : Nat → List Nat
  | 0 => b
  | i + 1 => (putP b c w i).set (4 * c + i) (w / 2 ^ (24 - 8 * i) % 256)
def putC (b : List Nat) (c w : Nat) : List Nat := putP b c w 4
theorem putP_len (b : List Nat) (c w : Nat) : ∀ i, (putP b c w i).length = b.length
  | 0 => rfl
  | i + 1 => by simp [putP, putP_len b c w i]
theorem putC_len (b : List Nat) (c w : Nat) : (putC b c w).length = b.length := putP_len _ _ _ _
theorem Bys.set {l : List Nat} (h : Bys l) (i x : Nat) (hx : x < 256) : Bys (l.set i x) := by
  intro j
  rw [List.getD_eq_getElem?_getD, List.getElem?_set]
  split
  · split
    · exact hx
    · decide
  · rw [← List.getD_eq_getElem?_getD]; exact h j
theorem putP_bys {b : List Nat} (h : Bys b) (c w : Nat) : ∀ i, Bys (putP b c w i)
  | 0 => h
  | i + 1 => (putP_bys h c w i).set _ _ (Nat.mod_lt _ (by omega))
theorem putC_bys {b : List Nat} (h : Bys b) (c w : Nat) : Bys (putC b c w) := putP_bys h c w 4

set_option maxHeartbeats 2000000 in
set_option maxRecDepth 100000 in
theorem c_put (b : List Nat) (c wd : Nat) (w : World) (hb : b.length = 16) (hc : c < 4) :
    Calls Try.prog 78 #[.agg (ints .u8 (nn b)).toArray, .int .i64 (c : Int), .int .u32 (wd : Int)] w fun e w' => e = .returned (.agg (ints .u8 (nn (putC b c wd))).toArray) ∧ Below w.heap.size w w' := by
  obtain ⟨L, hL⟩ : ∃ L, putC b c wd = L := ⟨_, rfl⟩
  have hLL : L.length = 16 := by rw [← hL, putC_len, hb]
  rw [hL]
  have HL := Lib.hid hL
  have HLL := Lib.hid hLL
  have HB := Lib.hid hb
  clear hL hLL hb
  have hk0 : Blk (w.alloc (.cells (ints .u8 (nn b)).toArray 23)) w.heap.size 23 (ints .u8 (nn b)) := Blk.new _ _ _
  generalize hBV : (ints .u8 (nn b)).toArray = BV at *
  clear hBV
  go_enter Try.func78, Try.ntmps78
  go_wp2
  have hz0 : Blk ((w.alloc (.cells BV 23)).alloc (.cells (ints .u8 (nn (List.replicate 16 0))).toArray 23)) (w.heap.size + 1) 23 (ints .u8 (nn (List.replicate 16 0))) := Blk.new2 _ _ _ _ rfl
  have hk1 := hk0.alloc (.cells (ints .u8 (nn (List.replicate 16 0))).toArray 23)
  have hb1 : Below w.heap.size w ((w.alloc (.cells BV 23)).alloc (.cells (ints .u8 (nn (List.replicate 16 0))).toArray 23)) := ((Below.refl _ _).alloc (Nat.le_refl _) _).alloc (by simp) _
  have ez : (ints .u8 (nn (List.replicate 16 0))).toArray = #[.int .u8 0, .int .u8 0, .int .u8 0, .int .u8 0, .int .u8 0, .int .u8 0, .int .u8 0, .int .u8 0, .int .u8 0, .int .u8 0, .int .u8 0, .int .u8 0, .int .u8 0, .int .u8 0, .int .u8 0, .int .u8 0] := rfl
  rw [ez] at hz0 hk1 hb1
  clear ez hk0
  generalize World.alloc (World.alloc w _) _ = w2 at *
  go_loopw [7, 8] (fun _ i wr => ∃ k : Nat, k ≤ 4 ∧ i = .int .i64 k ∧ Blk wr w.heap.size 23 (ints .u8 (nn (putP b c wd k))) ∧ Blk wr (w.heap.size + 1) 23 (ints .u8 (nn (List.replicate 16 0))) ∧ Below w.heap.size w wr) (fun _ i _ => 4 - (intOf i).toNat)
  case atStart => exact ⟨0, by omega, rfl, hk1, hz0, hb1⟩
  case round =>
    obtain ⟨k, hk4, rfl, hf, hz, hb⟩ := hrel
    clear hk1 hz0 hb1
    by_cases hlt : k < 4
    · have hs : putP b c wd (k + 1) = (putP b c wd k).set (4 * c + k) (wd / 2 ^ (24 - 8 * k) % 256) := rfl
      have hl := putP_len b c wd k
      have hcell := hf.nat (j := 4 * c + k) (by rw [hl, HB.out]; omega)
      have hfr := hf.free (4 * c + k)
      have Hs := Lib.hid hs
      clear hs hl
      generalize putP b c wd k = l at *
      have i1 : (0 : Int) ≤ 4 * (c : Int) + (k : Int) := by omega
      have i2 : (4 * (c : Int) + (k : Int)).toNat = 4 * c + k := by omega
      have i3 : 4 * (c : Int) + (k : Int) < 16 := by omega
      have i4 : (0 : Int) ≤ 24 - 8 * (k : Int) := by omega
      have i5 : (24 - 8 * (k : Int)).toNat = 24 - 8 * k := by omega
      have i6 : 8 * (k : Int) ≤ 24 := by omega
      have i7 : (c : Int) < 4 := by omega
      have i8 : (k : Int) < 4 := by omega
      have hv : (wd : Int) / 2 ^ (24 - 8 * k) % 256 = ((wd / 2 ^ (24 - 8 * k) % 256 : Nat) : Int) := by rw [Int.natCast_emod, Int.natCast_ediv, pow_cast]; rfl
      generalize wd / 2 ^ (24 - 8 * k) % 256 = y at *
      go_wp2
      go_roundw
      case rel =>
        refine ⟨k + 1, by omega, by go_num, ?_, hz.other (by simp) _, hb.setCell (by simp) _⟩
        rw [Hs.out]
        exact hf.setNat (4 * c + k) y
      case measure => simp [intOf]; omega
    · obtain rfl : k = 4 := by omega
      have hE : Blk wr w.heap.size 23 (ints .u8 (nn L)) := by rw [← HL.out]; exact hf
      clear hf
      go_wp2_with (first | (refine wpList_load_blk rfl 23 _ rfl _ rfl hE Try.underlying23 rfl (by rw [size_b16, ints_length, nn_length, HLL.out]) ?_) | (refine wpList_store_blk rfl 23 _ _ rfl _ _ rfl rfl hz (by rw [size_b16, ints_length, nn_length, HLL.out]) (by rw [ints_length, ints_length, nn_length, nn_length, HLL.out]; rfl) (ints_one _ _) ?_))
      refine bodyPost_ret (v := .agg (ints .u8 (nn L)).toArray) (results_cell_blk rfl _ _ _ rfl (hz.row (ints .u8 (nn L)) (by rw [ints_length, ints_length, nn_length, nn_length, HLL.out]; rfl)) Try.underlying23 rfl (by rw [size_b16, ints_length, nn_length, HLL.out])) rfl ⟨rfl, below_setRow hb (by omega) _⟩
end Go.Proofs.Ytleofmeejjikmaa
namespace Go.Proofs.Ytleofmeejjikmaa
open Go.ChangeShapes Go.WideShapes Go.ChangeAt Go.RowKit
set_option linter.unusedVariables false

theorem cells_u32 : Try.prog.cellsOf 60 = 1 := by kernel_rfl
end Go.Proofs.Ytleofmeejjikmaa
namespace Go.Proofs.Ytleofmeejjikmaa
open Go.RowKit Go.Shelf
set_option linter.unusedVariables false

attribute [local go_sem] Oper.semAt_some

/-- b with other columns, those that have come, each made of the elder one -/
def chL (g : Nat → Nat → Nat) (bl : List Nat) (pre : List (Fin 4)) : List Nat := pre.foldl (fun b x => putC b x.val (g x.val (kw bl x.val))) bl
theorem chL_snoc (g : Nat → Nat → Nat) (bl : List Nat) (pre : List (Fin 4)) (x : Fin 4) : chL g bl (pre ++ [x]) = putC (chL g bl pre) x.val (g x.val (kw bl x.val)) := by simp [chL]
theorem chL_len (g : Nat → Nat → Nat) (bl : List Nat) (pre : List (Fin 4)) : (chL g bl pre).length = bl.length := by
  have : ∀ (pre : List (Fin 4)) (b : List Nat), (pre.foldl (fun b x => putC b x.val (g x.val (kw bl x.val))) b).length = b.length := by
    intro pre
    induction pre with
    | nil => intro b; rfl
    | cons x pre ih => intro b; rw [List.foldl_cons, ih, putC_len]
  exact this pre bl
theorem chL_bys (g : Nat → Nat → Nat) {bl : List Nat} (h : Bys bl) (pre : List (Fin 4)) : Bys (chL g bl pre) := by
  have : ∀ (pre : List (Fin 4)) (b : List Nat), Bys b → Bys (pre.foldl (fun b x => putC b x.val (g x.val (kw bl x.val))) b) := by
    intro pre
    induction pre with
    | nil => intro b hb; exact hb
    | cons x pre ih => intro b hb; rw [List.foldl_cons]; exact ih _ (putC_bys hb _ _)
  exact this pre bl h
def chAll (g : Nat → Nat → Nat) (bl : List Nat) : List Nat := chL g bl (cols 4)
theorem alloc_b16 (w : World) : (Instr.alloc 23 true (.tuple #[])).run Try.prog w = .ok (.pointer (some ⟨w.heap.size, 0, none⟩)) (w.alloc (.cells (ints .u8 (nn (zerN 16))).toArray 23)) := by kernel_rfl

set_option maxRecDepth 100000 in
set_option maxHeartbeats 2000000 in
theorem c_changed (bl : List Nat) (bx : Nat) (w : World) (hbl : bl.length = 16) (hby : Bys bl) (hx : Blk w bx 85 (ints .u8 (nn boxT))) :
    Calls Try.prog 68 #[.agg (ints .u8 (nn bl)).toArray, .func (.func 73) #[] #[.pointer (some ⟨bx, 0, none⟩)]] w fun e w' => e = .returned (.agg (ints .u8 (nn (chAll (fun _ v => eachN boxG v) bl))).toArray) ∧ Below w.heap.size w w' := by
  have hxl := hx.lt
  have H1 : Blk (w.alloc (.cells (ints .u8 (nn bl)).toArray 23)) w.heap.size 23 (ints .u8 (nn bl)) := Blk.new _ _ _
  refine (callsIn_wide (n := 9)).1 (callsIn_of_wp_marks Try.func68 rfl trivial ?_ rfl)
  simp only [Try.ntmps68, List.size_toArray, List.length_cons, List.length_nil, Nat.reduceAdd, Nat.reduceSub, Array.replicate_succ, Array.replicate_zero, List.push_toArray, List.append_toArray, List.nil_append, List.cons_append]
  refine wpIn_wide.2 ?_
  have HBL := Lib.hid hbl
  clear hbl
  go_wp2_with (first | (refine wpList_alloc_at rfl 23 rfl _ _ (alloc_b16 _) ?_) | (refine wpList_load_blk rfl 23 _ rfl _ rfl ((H1.alloc _).alloc _) Try.underlying23 rfl (by rw [size_b16, ints_length, nn_length, HBL.out]) ?_) | (go_at_call 77; (refine (c_columns _ _).mono ?_); rintro e w9 ⟨rfl, rfl⟩))
  have K0 : Blk ((((w.alloc (.cells (ints .u8 (nn bl)).toArray 23)).alloc (.cells #[.func (.func 73) #[] #[.pointer (some ⟨bx, 0, none⟩)]] 100)).alloc (.cells (ints .u8 (nn (zerN 16))).toArray 23)).alloc (.cells (ints .u8 (nn bl)).toArray 23)) w.heap.size 23 (ints .u8 (nn bl)) := ((H1.alloc _).alloc _).alloc _
  have K1 : Blk ((((w.alloc (.cells (ints .u8 (nn bl)).toArray 23)).alloc (.cells #[.func (.func 73) #[] #[.pointer (some ⟨bx, 0, none⟩)]] 100)).alloc (.cells (ints .u8 (nn (zerN 16))).toArray 23)).alloc (.cells (ints .u8 (nn bl)).toArray 23)) (w.heap.size + 1) 100 [.func (.func 73) #[] #[.pointer (some ⟨bx, 0, none⟩)]] := ((Blk.new2 _ _ _ _ rfl).alloc _).alloc _
  have K2 : Blk ((((w.alloc (.cells (ints .u8 (nn bl)).toArray 23)).alloc (.cells #[.func (.func 73) #[] #[.pointer (some ⟨bx, 0, none⟩)]] 100)).alloc (.cells (ints .u8 (nn (zerN 16))).toArray 23)).alloc (.cells (ints .u8 (nn bl)).toArray 23)) (w.heap.size + 1 + 1) 23 (ints .u8 (nn (zerN 16))) := by
    have := Blk.new2 (w.alloc (.cells (ints .u8 (nn bl)).toArray 23)) (.cells #[.func (.func 73) #[] #[.pointer (some ⟨bx, 0, none⟩)]] 100) 23 (ints .u8 (nn (zerN 16))) rfl
    rw [World.size_alloc] at this
    exact this.alloc _
  have K3 : Blk ((((w.alloc (.cells (ints .u8 (nn bl)).toArray 23)).alloc (.cells #[.func (.func 73) #[] #[.pointer (some ⟨bx, 0, none⟩)]] 100)).alloc (.cells (ints .u8 (nn (zerN 16))).toArray 23)).alloc (.cells (ints .u8 (nn bl)).toArray 23)) (w.heap.size + 1 + 1 + 1) 23 (ints .u8 (nn bl)) := by
    have := Blk.new2 ((w.alloc (.cells (ints .u8 (nn bl)).toArray 23)).alloc (.cells #[.func (.func 73) #[] #[.pointer (some ⟨bx, 0, none⟩)]] 100)) (.cells (ints .u8 (nn (zerN 16))).toArray 23) 23 (ints .u8 (nn bl)) rfl
    simp only [World.size_alloc] at this
    exact this
  have Kx := (((hx.alloc (.cells (ints .u8 (nn bl)).toArray 23)).alloc (.cells #[.func (.func 73) #[] #[.pointer (some ⟨bx, 0, none⟩)]] 100)).alloc (.cells (ints .u8 (nn (zerN 16))).toArray 23)).alloc (.cells (ints .u8 (nn bl)).toArray 23)
  have Kb : Below w.heap.size w ((((w.alloc (.cells (ints .u8 (nn bl)).toArray 23)).alloc (.cells #[.func (.func 73) #[] #[.pointer (some ⟨bx, 0, none⟩)]] 100)).alloc (.cells (ints .u8 (nn (zerN 16))).toArray 23)).alloc (.cells (ints .u8 (nn bl)).toArray 23)) := ((((Below.refl _ _).alloc (Nat.le_refl _) _).alloc (by simp) _).alloc (by simp; omega) _).alloc (by simp; omega) _
  have Kn : ((((w.alloc (.cells (ints .u8 (nn bl)).toArray 23)).alloc (.cells #[.func (.func 73) #[] #[.pointer (some ⟨bx, 0, none⟩)]] 100)).alloc (.cells (ints .u8 (nn (zerN 16))).toArray 23)).alloc (.cells (ints .u8 (nn bl)).toArray 23)).heap.size = w.heap.size + 4 := by simp
  generalize World.alloc (World.alloc (World.alloc (World.alloc w _) _) _) _ = w4 at *
  have hKb : ∀ (W : World) (l : Nat) (o o' : Obj), w4.heap.size ≤ l → W.heap[l]? = some o → o.isCells = false → o.isWalk = false → ∀ o2, W.heap[w.heap.size + 1 + 1 + 1]? = some o2 → (W.putObj l o').heap[w.heap.size + 1 + 1 + 1]? = some o2 := fun W l o o' hl _ _ _ o2 ho2 =>
    (World.putObj_heap_other (by omega)).trans ho2
  refine (wpIn_wide (n := 9)).1 ?_
  refine wpIn_rangeFunc_ownF (F := Fence.wide) (n := 9) rfl (by omega) (gf := 82) (lb := #[.pointer (some ⟨w.heap.size + 1 + 1 + 1, 0, none⟩)]) rfl trivial (enters_of Try.func82 (by kernel_rfl) rfl)
    (c_stops 8 (w.heap.size + 1 + 1 + 1) bl HBL.out hby (by omega) w4 K3) (fun h k o ho => k o (h o ho)) hKb (Below.refl _ _) (fun _ => rfl)
    (fun pre W => (Blk W w.heap.size 23 (ints .u8 (nn (chL (fun _ v => eachN boxG v) bl pre))) ∧ Blk W (w.heap.size + 1) 100 [.func (.func 73) #[] #[.pointer (some ⟨bx, 0, none⟩)]] ∧ Blk W (w.heap.size + 1 + 1) 23 (ints .u8 (nn (zerN 16))) ∧ Blk W bx 85 (ints .u8 (nn boxT))) ∧ Below w.heap.size w W)
    (fun _ _ _ => False)
    (OwnFrom.and (Own.from (fun s A B row hs hg hr => ⟨hs.1.kept hg hr, hs.2.1.kept hg hr, hs.2.2.1.kept hg hr, hs.2.2.2.kept hg hr⟩) _) (ownFrom_below (Nat.le_refl _) (by omega)))
    (fun _ _ _ _ _ hs _ _ => hs)
    ⟨⟨K0, K1, K2, Kx⟩, Kb⟩
    (fun x => { tmps := #[.agg (ints .u8 (nn bl)).toArray, .func (.func 73) #[] #[.pointer (some ⟨bx, 0, none⟩)], .pointer (some ⟨w.heap.size, 0, none⟩), .pointer (some ⟨w.heap.size + 1, 0, none⟩), .pointer (some ⟨w.heap.size + 1 + 1, 0, none⟩), .int .i64 (x.val : Int), .int .u32 ((kw bl x.val : Nat) : Int), .agg (ints .u8 (nn bl)).toArray, .func (.func 82) #[] #[.pointer (some ⟨w.heap.size + 1 + 1 + 1, 0, none⟩)], .int .i64 (x.val : Int), .int .u32 ((kw bl x.val : Nat) : Int), undef, undef, undef, undef, undef, undef, undef], defers := [] }) ?assign ?body ?done ?stop
  case assign =>
    intro l x W K hK
    gi_wp2
    exact hK
  case body =>
    rintro l pre x W ⟨⟨h1, h2, h3, h4⟩, hb⟩ _
    have hlen : (chL (fun _ v => eachN boxG v) bl pre).length = 16 := by rw [chL_len, HBL.out]
    have hsn := chL_snoc (fun _ v => eachN boxG v) bl pre x
    have hkw := kw_lt hby x.val
    have hxl4 := x.isLt
    have hP : ∀ wx, NewBut W wx → Calls Try.prog 78 #[.agg (ints .u8 (nn (chL (fun _ v => eachN boxG v) bl pre))).toArray, .int .i64 (x.val : Int), .int .u32 ((eachN boxG (kw bl x.val) : Nat) : Int)] wx fun e w' => e = .returned (.agg (ints .u8 (nn (putC (chL (fun _ v => eachN boxG v) bl pre) x.val (eachN boxG (kw bl x.val))))).toArray) ∧ NewBut W w' := fun wx h =>
      (c_put _ x.val _ wx hlen hxl4).mono fun _ _ ⟨e1, e2⟩ => ⟨e1, h.trans (e2.mono h.size)⟩
    have hE : ∀ wx, NewBut W wx → Calls Try.prog 63 #[.int .u32 ((kw bl x.val : Nat) : Int), .func (.func 73) #[] #[.pointer (some ⟨bx, 0, none⟩)]] wx fun e w' => e = .returned (.int .u32 ((eachN boxG (kw bl x.val) : Nat) : Int)) ∧ NewBut W w' := fun wx h =>
      (c_each_look bx (kw bl x.val) wx (h4.below h h4.lt) hkw).mono fun _ _ ⟨e1, e2⟩ => ⟨e1, e2 ▸ h⟩
    have hf : ∀ wx, NewBut W wx → wx.cell? ⟨w.heap.size + 1, 0, none⟩ = some (.func (.func 73) #[] #[.pointer (some ⟨bx, 0, none⟩)]) := fun wx h => by rw [(h2.below h h2.lt).cell]; rfl
    have hb0 : ∀ wx, NewBut W wx → Blk wx w.heap.size 23 (ints .u8 (nn (chL (fun _ v => eachN boxG v) bl pre))) := fun wx h => h1.below h h1.lt
    have hll : (putC (chL (fun _ v => eachN boxG v) bl pre) x.val (eachN boxG (kw bl x.val))).length = 16 := by rw [putC_len, hlen]
    generalize putC (chL (fun _ v => eachN boxG v) bl pre) x.val (eachN boxG (kw bl x.val)) = L' at *
    generalize hLg : chL (fun _ v => eachN boxG v) bl pre = L at *
    have HLen := Lib.hid hlen
    have HLL := Lib.hid hll
    have HSN := Lib.hid hsn
    have HP := Lib.hid hP
    have HE := Lib.hid hE
    have HF := Lib.hid hf
    have HB0 := Lib.hid hb0
    clear hlen hll hsn hP hE hf hb0 hLg hKb
    refine wpIn_block ?_
    refine regionIn_quiet_tail (C := NewBut W) l 6 mixed (by kernel_rfl) (by kernel_rfl) (by rintro ⟨_, _, h⟩; exact h) (show Below _ _ _ from (Below.refl _ _).drew) ?_
    simp only [List.take_succ_cons, List.take_zero, List.drop_succ_cons, List.drop_zero]
    refine wpQuiet_load_row rfl 23 _ rfl w.heap.size 0 rfl (ints .u8 (nn L)) (fun wx h => (HB0.out wx h).whole) Try.underlying23 rfl (by rw [size_b16, ints_length, nn_length, HLen.out]) ?_
    repeat (refine wpQuiet_step (fun K' hK' => ?_); go_simp; first | (refine ⟨_, fun _ _ => rfl, hK' _ ?_⟩; clear hK' K') | (refine ⟨.func (.func 73) #[] #[.pointer (some ⟨bx, 0, none⟩)], ?_, hK' _ ?_⟩; (focus (intro wx hx; have hc := HF.out wx hx; go_simp; done)); clear hK' K') | (refine ⟨_, fun wx hx => HE.out wx hx, hK' _ ?_⟩; clear hK' K') | (refine ⟨_, fun wx hx => HP.out wx hx, hK' _ ?_⟩; clear hK' K'))
    refine wpQuiet_nil ?_
    intro w5 hb5
    have h15 := h1.below hb5 h1.lt
    refine wpList_store_blk rfl 23 _ _ rfl w.heap.size (ints .u8 (nn L')) rfl rfl h15 (by rw [size_b16, ints_length, nn_length, HLL.out]) (by rw [ints_length, ints_length, nn_length, nn_length, HLen.out, HLL.out]) (ints_one _ _) ?_
    refine wpList_nil ?_
    have h16 := h15.row (ints .u8 (nn L')) (by rw [ints_length, ints_length, nn_length, nn_length, HLen.out, HLL.out])
    have hl2 := h2.lt
    have hl3 := h3.lt
    refine ⟨(KeepsOthers.of_below hb5).trans (KeepsOthers.of_row h15 _), fun o ho => ?_, ⟨?_, ?_, ?_, ?_⟩, ?_⟩
    · rw [setRow_other _ _ _ _ (show w.heap.size + 1 + 1 + 1 ≠ w.heap.size by omega), hb5.block _ (Array.getElem?_eq_some_iff.1 ho).1]
      exact ho
    · rw [HSN.out]; exact h16
    · exact (h2.below hb5 hl2).rowOther (by omega) _
    · exact (h3.below hb5 hl3).rowOther (by omega) _
    · exact (h4.below hb5 h4.lt).rowOther (by omega) _
    · exact below_setRow (hb.trans (hb5.mono hb.size)) (Nat.le_refl _) _
  case done =>
    rintro D ys W hD rfl ⟨⟨h1, h2, h3, h4⟩, hb⟩ hK
    have hlen : (chL (fun _ v => eachN boxG v) bl (cols 4)).length = 16 := by rw [chL_len, HBL.out]
    have HCL := Lib.hid hlen
    clear hlen
    have HKD := Lib.hid hK
    clear hK hKb
    go_wp2_with (first | (refine wpList_load_blk rfl 23 _ rfl _ rfl h1 Try.underlying23 rfl (by rw [size_b16, ints_length, nn_length, HCL.out]) ?_) | (refine wpList_store_blk rfl 23 _ _ rfl _ _ rfl rfl h3 (by rw [size_b16, ints_length, nn_length, HCL.out]) (by rw [ints_length, ints_length, nn_length, nn_length, HCL.out, zerN_len]) (ints_one _ _) ?_))
    have hDn : D ≠ w.heap.size + 1 + 1 := by omega
    have HK2 := (setRow_other W (w.heap.size + 1 + 1) D (ints .u8 (nn (chL (fun _ v => eachN boxG v) bl (cols 4)))).toArray hDn).trans HKD.out
    have h5 := h3.row (ints .u8 (nn (chL (fun _ v => eachN boxG v) bl (cols 4)))) (by rw [ints_length, ints_length, nn_length, nn_length, HCL.out, zerN_len])
    have hb5 := below_setRow hb (show w.heap.size ≤ w.heap.size + 1 + 1 by omega) (ints .u8 (nn (chL (fun _ v => eachN boxG v) bl (cols 4)))).toArray
    refine ⟨by simp, .inl ⟨_, _, rfl, run_takeDeferred HK2, ?_⟩⟩
    refine ⟨_, results_cell_blk rfl _ _ _ rfl (h5.kept (grownBy_putObj' _ D _) (fun r e => by cases e; exact ⟨_, HK2, rfl⟩)) Try.underlying23 rfl (by rw [size_b16, ints_length, nn_length, HCL.out]), rfl, ?_⟩
    exact hb5.trans (belowK_b (w := w) (Nat.le_refl _) _ D _ _ (by omega) HK2 rfl rfl)
  case stop =>
    rintro D c pre W _ _ h _
    exact h.elim
end Go.Proofs.Ytleofmeejjikmaa
namespace Go.Proofs.Ytleofmeejjikmaa
open Go.RowKit Go.Shelf
set_option linter.unusedVariables false

attribute [local go_sem] Oper.semAt_some

/-- what a round key makes of a column -/
def addG (K : List Nat) (r : Nat) (c v : Nat) : Nat := v ^^^ K.getD (4 * r + c) 0

set_option maxRecDepth 100000 in
set_option maxHeartbeats 2000000 in
theorem c_added (bl K : List Nat) (r : Nat) (w : World) (hbl : bl.length = 16) (hby : Bys bl) (hK : K.length = 60) (hKw : Words K) (hr : r ≤ 14) :
    Calls Try.prog 66 #[.agg (ints .u8 (nn bl)).toArray, .agg (ints .u32 (nn K)).toArray, .int .i64 (r : Int)] w fun e w' => e = .returned (.agg (ints .u8 (nn (chAll (addG K r) bl))).toArray) ∧ Below w.heap.size w w' := by
  have H1 : Blk (w.alloc (.cells (ints .u8 (nn bl)).toArray 23)) w.heap.size 23 (ints .u8 (nn bl)) := Blk.new _ _ _
  refine (callsIn_wide (n := 9)).1 (callsIn_of_wp_marks Try.func66 rfl trivial ?_ rfl)
  simp only [Try.ntmps66, List.size_toArray, List.length_cons, List.length_nil, Nat.reduceAdd, Nat.reduceSub, Array.replicate_succ, Array.replicate_zero, List.push_toArray, List.append_toArray, List.nil_append, List.cons_append]
  refine wpIn_wide.2 ?_
  have HBL := Lib.hid hbl
  have HK := Lib.hid hK
  clear hbl hK
  go_wp2_with (first | (refine wpList_alloc_at rfl 23 rfl _ _ (alloc_b16 _) ?_) | (refine wpList_load_blk rfl 23 _ rfl _ rfl (((H1.alloc _).alloc _).alloc _) Try.underlying23 rfl (by rw [size_b16, ints_length, nn_length, HBL.out]) ?_) | (go_at_call 77; (refine (c_columns _ _).mono ?_); rintro e w9 ⟨rfl, rfl⟩))
  have K0 : Blk (((((w.alloc (.cells (ints .u8 (nn bl)).toArray 23)).alloc (.cells (ints .u32 (nn K)).toArray 91)).alloc (.cells #[.int .i64 (r : Int)] 3)).alloc (.cells (ints .u8 (nn (zerN 16))).toArray 23)).alloc (.cells (ints .u8 (nn bl)).toArray 23)) w.heap.size 23 (ints .u8 (nn bl)) := (((H1.alloc _).alloc _).alloc _).alloc _
  have K1 : Blk (((((w.alloc (.cells (ints .u8 (nn bl)).toArray 23)).alloc (.cells (ints .u32 (nn K)).toArray 91)).alloc (.cells #[.int .i64 (r : Int)] 3)).alloc (.cells (ints .u8 (nn (zerN 16))).toArray 23)).alloc (.cells (ints .u8 (nn bl)).toArray 23)) (w.heap.size + 1) 91 (ints .u32 (nn K)) := (((Blk.new2 _ _ _ _ rfl).alloc _).alloc _).alloc _
  have K2 : Blk (((((w.alloc (.cells (ints .u8 (nn bl)).toArray 23)).alloc (.cells (ints .u32 (nn K)).toArray 91)).alloc (.cells #[.int .i64 (r : Int)] 3)).alloc (.cells (ints .u8 (nn (zerN 16))).toArray 23)).alloc (.cells (ints .u8 (nn bl)).toArray 23)) (w.heap.size + 1 + 1) 3 [.int .i64 (r : Int)] := by
    have := Blk.new2 (w.alloc (.cells (ints .u8 (nn bl)).toArray 23)) (.cells (ints .u32 (nn K)).toArray 91) 3 [.int .i64 (r : Int)] rfl
    rw [World.size_alloc] at this
    exact (this.alloc _).alloc _
  have K3 : Blk (((((w.alloc (.cells (ints .u8 (nn bl)).toArray 23)).alloc (.cells (ints .u32 (nn K)).toArray 91)).alloc (.cells #[.int .i64 (r : Int)] 3)).alloc (.cells (ints .u8 (nn (zerN 16))).toArray 23)).alloc (.cells (ints .u8 (nn bl)).toArray 23)) (w.heap.size + 1 + 1 + 1) 23 (ints .u8 (nn (zerN 16))) := by
    have := Blk.new2 ((w.alloc (.cells (ints .u8 (nn bl)).toArray 23)).alloc (.cells (ints .u32 (nn K)).toArray 91)) (.cells #[.int .i64 (r : Int)] 3) 23 (ints .u8 (nn (zerN 16))) rfl
    simp only [World.size_alloc] at this
    exact this.alloc _
  have K4 : Blk (((((w.alloc (.cells (ints .u8 (nn bl)).toArray 23)).alloc (.cells (ints .u32 (nn K)).toArray 91)).alloc (.cells #[.int .i64 (r : Int)] 3)).alloc (.cells (ints .u8 (nn (zerN 16))).toArray 23)).alloc (.cells (ints .u8 (nn bl)).toArray 23)) (w.heap.size + 1 + 1 + 1 + 1) 23 (ints .u8 (nn bl)) := by
    have := Blk.new2 (((w.alloc (.cells (ints .u8 (nn bl)).toArray 23)).alloc (.cells (ints .u32 (nn K)).toArray 91)).alloc (.cells #[.int .i64 (r : Int)] 3)) (.cells (ints .u8 (nn (zerN 16))).toArray 23) 23 (ints .u8 (nn bl)) rfl
    simp only [World.size_alloc] at this
    exact this
  have Kb : Below w.heap.size w (((((w.alloc (.cells (ints .u8 (nn bl)).toArray 23)).alloc (.cells (ints .u32 (nn K)).toArray 91)).alloc (.cells #[.int .i64 (r : Int)] 3)).alloc (.cells (ints .u8 (nn (zerN 16))).toArray 23)).alloc (.cells (ints .u8 (nn bl)).toArray 23)) := (((((Below.refl _ _).alloc (Nat.le_refl _) _).alloc (by simp) _).alloc (by simp; omega) _).alloc (by simp; omega) _).alloc (by simp; omega) _
  have Kn : (((((w.alloc (.cells (ints .u8 (nn bl)).toArray 23)).alloc (.cells (ints .u32 (nn K)).toArray 91)).alloc (.cells #[.int .i64 (r : Int)] 3)).alloc (.cells (ints .u8 (nn (zerN 16))).toArray 23)).alloc (.cells (ints .u8 (nn bl)).toArray 23)).heap.size = w.heap.size + 5 := by simp
  generalize World.alloc (World.alloc (World.alloc (World.alloc (World.alloc w _) _) _) _) _ = w4 at *
  have hKb : ∀ (W : World) (l : Nat) (o o' : Obj), w4.heap.size ≤ l → W.heap[l]? = some o → o.isCells = false → o.isWalk = false → ∀ o2, W.heap[w.heap.size + 1 + 1 + 1 + 1]? = some o2 → (W.putObj l o').heap[w.heap.size + 1 + 1 + 1 + 1]? = some o2 := fun W l o o' hl _ _ _ o2 ho2 =>
    (World.putObj_heap_other (by omega)).trans ho2
  refine (wpIn_wide (n := 9)).1 ?_
  refine wpIn_rangeFunc_ownF (F := Fence.wide) (n := 9) rfl (by omega) (gf := 82) (lb := #[.pointer (some ⟨w.heap.size + 1 + 1 + 1 + 1, 0, none⟩)]) rfl trivial (enters_of Try.func82 (by kernel_rfl) rfl)
    (c_stops 8 (w.heap.size + 1 + 1 + 1 + 1) bl HBL.out hby (by omega) w4 K4) (fun h k o ho => k o (h o ho)) hKb (Below.refl _ _) (fun _ => rfl)
    (fun pre W => (Blk W w.heap.size 23 (ints .u8 (nn (chL (addG K r) bl pre))) ∧ Blk W (w.heap.size + 1) 91 (ints .u32 (nn K)) ∧ Blk W (w.heap.size + 1 + 1) 3 [.int .i64 (r : Int)] ∧ Blk W (w.heap.size + 1 + 1 + 1) 23 (ints .u8 (nn (zerN 16)))) ∧ Below w.heap.size w W)
    (fun _ _ _ => False)
    (OwnFrom.and (Own.from (fun s A B row hs hg hr => ⟨hs.1.kept hg hr, hs.2.1.kept hg hr, hs.2.2.1.kept hg hr, hs.2.2.2.kept hg hr⟩) _) (ownFrom_below (Nat.le_refl _) (by omega)))
    (fun _ _ _ _ _ hs _ _ => hs)
    ⟨⟨K0, K1, K2, K3⟩, Kb⟩
    (fun x => { tmps := #[.agg (ints .u8 (nn bl)).toArray, .agg (ints .u32 (nn K)).toArray, .int .i64 (r : Int), .pointer (some ⟨w.heap.size, 0, none⟩), .pointer (some ⟨w.heap.size + 1, 0, none⟩), .pointer (some ⟨w.heap.size + 1 + 1, 0, none⟩), .pointer (some ⟨w.heap.size + 1 + 1 + 1, 0, none⟩), .int .i64 (x.val : Int), .int .u32 ((kw bl x.val : Nat) : Int), .agg (ints .u8 (nn bl)).toArray, .func (.func 82) #[] #[.pointer (some ⟨w.heap.size + 1 + 1 + 1 + 1, 0, none⟩)], .int .i64 (x.val : Int), .int .u32 ((kw bl x.val : Nat) : Int), undef, undef, undef, undef, undef, undef, undef, undef, undef, undef, undef, undef], defers := [] }) ?assign ?body ?done ?stop
  case assign =>
    intro l x W K hK
    gi_wp2
    exact hK
  case body =>
    rintro l pre x W ⟨⟨h1, h2, h3, h4⟩, hb⟩ _
    have hlen : (chL (addG K r) bl pre).length = 16 := by rw [chL_len, HBL.out]
    have hsn := chL_snoc (addG K r) bl pre x
    have hkw := kw_lt hby x.val
    have hxl4 := x.isLt
    have hxor := xor_word (kw bl x.val) (K.getD (4 * r + x.val) 0) hkw (hKw _)
    rw [show kw bl x.val ^^^ K.getD (4 * r + x.val) 0 = addG K r x.val (kw bl x.val) from rfl] at hxor
    have hP : ∀ wx, NewBut W wx → Calls Try.prog 78 #[.agg (ints .u8 (nn (chL (addG K r) bl pre))).toArray, .int .i64 (x.val : Int), .int .u32 ((addG K r x.val (kw bl x.val) : Nat) : Int)] wx fun e w' => e = .returned (.agg (ints .u8 (nn (putC (chL (addG K r) bl pre) x.val (addG K r x.val (kw bl x.val))))).toArray) ∧ NewBut W w' := fun wx h =>
      (c_put _ x.val _ wx hlen hxl4).mono fun _ _ ⟨e1, e2⟩ => ⟨e1, h.trans (e2.mono h.size)⟩
    have hkc : ∀ wx, NewBut W wx → wx.cell? ⟨w.heap.size + 1, 4 * r + x.val, none⟩ = some (.int .u32 ((K.getD (4 * r + x.val) 0 : Nat) : Int)) := fun wx h => (h2.below h h2.lt).nat (by rw [HK.out]; omega)
    have hf : ∀ wx, NewBut W wx → wx.cell? ⟨w.heap.size + 1 + 1, 0, none⟩ = some (.int .i64 (r : Int)) := fun wx h => by rw [(h3.below h h3.lt).cell]; rfl
    have hb0 : ∀ wx, NewBut W wx → Blk wx w.heap.size 23 (ints .u8 (nn (chL (addG K r) bl pre))) := fun wx h => h1.below h h1.lt
    have hll : (putC (chL (addG K r) bl pre) x.val (addG K r x.val (kw bl x.val))).length = 16 := by rw [putC_len, hlen]
    generalize putC (chL (addG K r) bl pre) x.val (addG K r x.val (kw bl x.val)) = L' at *
    generalize hLg : chL (addG K r) bl pre = L at *
    have e0 : IntKind.i64.wrap (4 * (r : Int)) = 4 * (r : Int) := IntWalk.i64_in _ (by omega)
    have e1 : IntKind.i64.wrap (4 * (r : Int) + (x.val : Int)) = 4 * (r : Int) + (x.val : Int) := IntWalk.i64_in _ (by omega)
    have e2 : (4 * (r : Int) + (x.val : Int)).toNat = 4 * r + x.val := by omega
    have e3 : (0 : Int) ≤ 4 * (r : Int) + (x.val : Int) := by omega
    have e4 : 4 * (r : Int) + (x.val : Int) < 60 := by omega
    have HLen := Lib.hid hlen
    have HLL := Lib.hid hll
    have HSN := Lib.hid hsn
    have HP := Lib.hid hP
    have HKC := Lib.hid hkc
    have HF := Lib.hid hf
    have HB0 := Lib.hid hb0
    clear hlen hll hsn hP hkc hf hb0 hLg hKb
    generalize addG K r x.val (kw bl x.val) = nv at *
    generalize K.getD (4 * r + x.val) 0 = kv at *
    refine wpIn_block ?_
    refine regionIn_quiet_tail (C := NewBut W) l 11 mixed (by kernel_rfl) (by kernel_rfl) (by rintro ⟨_, _, h⟩; exact h) (show Below _ _ _ from (Below.refl _ _).drew) ?_
    simp only [List.take_succ_cons, List.take_zero, List.drop_succ_cons, List.drop_zero]
    refine wpQuiet_load_row rfl 23 _ rfl w.heap.size 0 rfl (ints .u8 (nn L)) (fun wx h => (HB0.out wx h).whole) Try.underlying23 rfl (by rw [size_b16, ints_length, nn_length, HLen.out]) ?_
    repeat (refine wpQuiet_step (fun K' hK' => ?_); go_simp; first | (refine ⟨_, fun _ _ => rfl, hK' _ ?_⟩; clear hK' K') | (refine ⟨.int .i64 (r : Int), ?_, hK' _ ?_⟩; (focus (intro wx hx; have hc := HF.out wx hx; go_simp; done)); clear hK' K') | (refine ⟨.int .u32 (kv : Int), ?_, hK' _ ?_⟩; (focus (intro wx hx; have hc := HKC.out wx hx; go_simp; done)); clear hK' K') | (refine ⟨_, fun wx hx => HP.out wx hx, hK' _ ?_⟩; clear hK' K'))
    refine wpQuiet_nil ?_
    intro w5 hb5
    have h15 := h1.below hb5 h1.lt
    refine wpList_store_blk rfl 23 _ _ rfl w.heap.size (ints .u8 (nn L')) rfl rfl h15 (by rw [size_b16, ints_length, nn_length, HLL.out]) (by rw [ints_length, ints_length, nn_length, nn_length, HLen.out, HLL.out]) (ints_one _ _) ?_
    refine wpList_nil ?_
    have h16 := h15.row (ints .u8 (nn L')) (by rw [ints_length, ints_length, nn_length, nn_length, HLen.out, HLL.out])
    have hl2 := h2.lt
    have hl3 := h3.lt
    have hl4 := h4.lt
    refine ⟨(KeepsOthers.of_below hb5).trans (KeepsOthers.of_row h15 _), fun o ho => ?_, ⟨?_, ?_, ?_, ?_⟩, ?_⟩
    · rw [setRow_other _ _ _ _ (show w.heap.size + 1 + 1 + 1 + 1 ≠ w.heap.size by omega), hb5.block _ (Array.getElem?_eq_some_iff.1 ho).1]
      exact ho
    · rw [HSN.out]; exact h16
    · exact (h2.below hb5 hl2).rowOther (by omega) _
    · exact (h3.below hb5 hl3).rowOther (by omega) _
    · exact (h4.below hb5 hl4).rowOther (by omega) _
    · exact below_setRow (hb.trans (hb5.mono hb.size)) (Nat.le_refl _) _
  case done =>
    rintro D ys W hD rfl ⟨⟨h1, h2, h3, h4⟩, hb⟩ hK
    have hlen : (chL (addG K r) bl (cols 4)).length = 16 := by rw [chL_len, HBL.out]
    have HCL := Lib.hid hlen
    clear hlen
    have HKD := Lib.hid hK
    clear hK hKb
    go_wp2_with (first | (refine wpList_load_blk rfl 23 _ rfl _ rfl h1 Try.underlying23 rfl (by rw [size_b16, ints_length, nn_length, HCL.out]) ?_) | (refine wpList_store_blk rfl 23 _ _ rfl _ _ rfl rfl h4 (by rw [size_b16, ints_length, nn_length, HCL.out]) (by rw [ints_length, ints_length, nn_length, nn_length, HCL.out, zerN_len]) (ints_one _ _) ?_))
    have hDn : D ≠ w.heap.size + 1 + 1 + 1 := by omega
    have HK2 := (setRow_other W (w.heap.size + 1 + 1 + 1) D (ints .u8 (nn (chL (addG K r) bl (cols 4)))).toArray hDn).trans HKD.out
    have h5 := h4.row (ints .u8 (nn (chL (addG K r) bl (cols 4)))) (by rw [ints_length, ints_length, nn_length, nn_length, HCL.out, zerN_len])
    have hb5 := below_setRow hb (show w.heap.size ≤ w.heap.size + 1 + 1 + 1 by omega) (ints .u8 (nn (chL (addG K r) bl (cols 4)))).toArray
    refine ⟨by simp, .inl ⟨_, _, rfl, run_takeDeferred HK2, ?_⟩⟩
    refine ⟨_, results_cell_blk rfl _ _ _ rfl (h5.kept (grownBy_putObj' _ D _) (fun r e => by cases e; exact ⟨_, HK2, rfl⟩)) Try.underlying23 rfl (by rw [size_b16, ints_length, nn_length, HCL.out]), rfl, ?_⟩
    exact hb5.trans (belowK_b (w := w) (Nat.le_refl _) _ D _ _ (by omega) HK2 rfl rfl)
  case stop =>
    rintro D c pre W _ _ h _
    exact h.elim
end Go.Proofs.Ytleofmeejjikmaa
namespace Go.Proofs.Ytleofmeejjikmaa
open Go.RowKit Go.Shelf
set_option linter.unusedVariables false

attribute [local go_sem] Oper.semAt_some

def two (v : Nat) : Nat := eachN (fun x => mul x 2) v
def three (v : Nat) : Nat := eachN (fun x => mul x 3) v
/-- what is made of a column -/
def mixG (c v : Nat) : Nat := two v ^^^ three (rotl32 v 8) ^^^ rotl32 v 16 ^^^ rotl32 v 24
theorem two_lt (v : Nat) : two v < 4294967296 := eachN_lt (mul_byte 2) v
theorem three_lt (v : Nat) : three v < 4294967296 := eachN_lt (mul_byte 3) v

set_option maxRecDepth 100000 in
set_option maxHeartbeats 2000000 in
theorem c_mixed (bl : List Nat) (w : World) (hbl : bl.length = 16) (hby : Bys bl) :
    Calls Try.prog 69 #[.agg (ints .u8 (nn bl)).toArray] w fun e w' => e = .returned (.agg (ints .u8 (nn (chAll mixG bl))).toArray) ∧ Below w.heap.size w w' := by
  have H1 : Blk (w.alloc (.cells (ints .u8 (nn bl)).toArray 23)) w.heap.size 23 (ints .u8 (nn bl)) := Blk.new _ _ _
  refine (callsIn_wide (n := 9)).1 (callsIn_of_wp_marks Try.func69 rfl trivial ?_ rfl)
  simp only [Try.ntmps69, List.size_toArray, List.length_cons, List.length_nil, Nat.reduceAdd, Nat.reduceSub, Array.replicate_succ, Array.replicate_zero, List.push_toArray, List.append_toArray, List.nil_append, List.cons_append]
  refine wpIn_wide.2 ?_
  have HBL := Lib.hid hbl
  clear hbl
  go_wp2_with (first | (refine wpList_alloc_at rfl 23 rfl _ _ (alloc_b16 _) ?_) | (refine wpList_load_blk rfl 23 _ rfl _ rfl (((H1.alloc _).alloc _).alloc _) Try.underlying23 rfl (by rw [size_b16, ints_length, nn_length, HBL.out]) ?_) | (go_at_call 77; (refine (c_columns _ _).mono ?_); rintro e w9 ⟨rfl, rfl⟩))
  have K0 : Blk (((((w.alloc (.cells (ints .u8 (nn bl)).toArray 23)).alloc (.cells (ints .u8 (nn (zerN 16))).toArray 23)).alloc (.cells #[.func (.func 79) #[] #[]] 100)).alloc (.cells #[.func (.func 80) #[] #[]] 100)).alloc (.cells (ints .u8 (nn bl)).toArray 23)) w.heap.size 23 (ints .u8 (nn bl)) := (((H1.alloc _).alloc _).alloc _).alloc _
  have K1 : Blk (((((w.alloc (.cells (ints .u8 (nn bl)).toArray 23)).alloc (.cells (ints .u8 (nn (zerN 16))).toArray 23)).alloc (.cells #[.func (.func 79) #[] #[]] 100)).alloc (.cells #[.func (.func 80) #[] #[]] 100)).alloc (.cells (ints .u8 (nn bl)).toArray 23)) (w.heap.size + 1) 23 (ints .u8 (nn (zerN 16))) := (((Blk.new2 _ _ _ _ rfl).alloc _).alloc _).alloc _
  have K2 : Blk (((((w.alloc (.cells (ints .u8 (nn bl)).toArray 23)).alloc (.cells (ints .u8 (nn (zerN 16))).toArray 23)).alloc (.cells #[.func (.func 79) #[] #[]] 100)).alloc (.cells #[.func (.func 80) #[] #[]] 100)).alloc (.cells (ints .u8 (nn bl)).toArray 23)) (w.heap.size + 1 + 1) 100 [.func (.func 79) #[] #[]] := by
    have := Blk.new2 (w.alloc (.cells (ints .u8 (nn bl)).toArray 23)) (.cells (ints .u8 (nn (zerN 16))).toArray 23) 100 [.func (.func 79) #[] #[]] rfl
    rw [World.size_alloc] at this
    exact (this.alloc _).alloc _
  have K3 : Blk (((((w.alloc (.cells (ints .u8 (nn bl)).toArray 23)).alloc (.cells (ints .u8 (nn (zerN 16))).toArray 23)).alloc (.cells #[.func (.func 79) #[] #[]] 100)).alloc (.cells #[.func (.func 80) #[] #[]] 100)).alloc (.cells (ints .u8 (nn bl)).toArray 23)) (w.heap.size + 1 + 1 + 1) 100 [.func (.func 80) #[] #[]] := by
    have := Blk.new2 ((w.alloc (.cells (ints .u8 (nn bl)).toArray 23)).alloc (.cells (ints .u8 (nn (zerN 16))).toArray 23)) (.cells #[.func (.func 79) #[] #[]] 100) 100 [.func (.func 80) #[] #[]] rfl
    simp only [World.size_alloc] at this
    exact this.alloc _
  have K4 : Blk (((((w.alloc (.cells (ints .u8 (nn bl)).toArray 23)).alloc (.cells (ints .u8 (nn (zerN 16))).toArray 23)).alloc (.cells #[.func (.func 79) #[] #[]] 100)).alloc (.cells #[.func (.func 80) #[] #[]] 100)).alloc (.cells (ints .u8 (nn bl)).toArray 23)) (w.heap.size + 1 + 1 + 1 + 1) 23 (ints .u8 (nn bl)) := by
    have := Blk.new2 (((w.alloc (.cells (ints .u8 (nn bl)).toArray 23)).alloc (.cells (ints .u8 (nn (zerN 16))).toArray 23)).alloc (.cells #[.func (.func 79) #[] #[]] 100)) (.cells #[.func (.func 80) #[] #[]] 100) 23 (ints .u8 (nn bl)) rfl
    simp only [World.size_alloc] at this
    exact this
  have Kb : Below w.heap.size w (((((w.alloc (.cells (ints .u8 (nn bl)).toArray 23)).alloc (.cells (ints .u8 (nn (zerN 16))).toArray 23)).alloc (.cells #[.func (.func 79) #[] #[]] 100)).alloc (.cells #[.func (.func 80) #[] #[]] 100)).alloc (.cells (ints .u8 (nn bl)).toArray 23)) := (((((Below.refl _ _).alloc (Nat.le_refl _) _).alloc (by simp) _).alloc (by simp; omega) _).alloc (by simp; omega) _).alloc (by simp; omega) _
  have Kn : (((((w.alloc (.cells (ints .u8 (nn bl)).toArray 23)).alloc (.cells (ints .u8 (nn (zerN 16))).toArray 23)).alloc (.cells #[.func (.func 79) #[] #[]] 100)).alloc (.cells #[.func (.func 80) #[] #[]] 100)).alloc (.cells (ints .u8 (nn bl)).toArray 23)).heap.size = w.heap.size + 5 := by simp
  generalize World.alloc (World.alloc (World.alloc (World.alloc (World.alloc w _) _) _) _) _ = w4 at *
  have hKb : ∀ (W : World) (l : Nat) (o o' : Obj), w4.heap.size ≤ l → W.heap[l]? = some o → o.isCells = false → o.isWalk = false → ∀ o2, W.heap[w.heap.size + 1 + 1 + 1 + 1]? = some o2 → (W.putObj l o').heap[w.heap.size + 1 + 1 + 1 + 1]? = some o2 := fun W l o o' hl _ _ _ o2 ho2 =>
    (World.putObj_heap_other (by omega)).trans ho2
  refine (wpIn_wide (n := 9)).1 ?_
  refine wpIn_rangeFunc_ownF (F := Fence.wide) (n := 9) rfl (by omega) (gf := 82) (lb := #[.pointer (some ⟨w.heap.size + 1 + 1 + 1 + 1, 0, none⟩)]) rfl trivial (enters_of Try.func82 (by kernel_rfl) rfl)
    (c_stops 8 (w.heap.size + 1 + 1 + 1 + 1) bl HBL.out hby (by omega) w4 K4) (fun h k o ho => k o (h o ho)) hKb (Below.refl _ _) (fun _ => rfl)
    (fun pre W => (Blk W w.heap.size 23 (ints .u8 (nn (chL mixG bl pre))) ∧ Blk W (w.heap.size + 1) 23 (ints .u8 (nn (zerN 16))) ∧ Blk W (w.heap.size + 1 + 1) 100 [.func (.func 79) #[] #[]] ∧ Blk W (w.heap.size + 1 + 1 + 1) 100 [.func (.func 80) #[] #[]]) ∧ Below w.heap.size w W)
    (fun _ _ _ => False)
    (OwnFrom.and (Own.from (fun s A B row hs hg hr => ⟨hs.1.kept hg hr, hs.2.1.kept hg hr, hs.2.2.1.kept hg hr, hs.2.2.2.kept hg hr⟩) _) (ownFrom_below (Nat.le_refl _) (by omega)))
    (fun _ _ _ _ _ hs _ _ => hs)
    ⟨⟨K0, K1, K2, K3⟩, Kb⟩
    (fun x => { tmps := #[.agg (ints .u8 (nn bl)).toArray, .pointer (some ⟨w.heap.size, 0, none⟩), .pointer (some ⟨w.heap.size + 1, 0, none⟩), .pointer (some ⟨w.heap.size + 1 + 1, 0, none⟩), .pointer (some ⟨w.heap.size + 1 + 1 + 1, 0, none⟩), .int .i64 (x.val : Int), .int .u32 ((kw bl x.val : Nat) : Int), .agg (ints .u8 (nn bl)).toArray, .func (.func 82) #[] #[.pointer (some ⟨w.heap.size + 1 + 1 + 1 + 1, 0, none⟩)], .int .i64 (x.val : Int), .int .u32 ((kw bl x.val : Nat) : Int), undef, undef, undef, undef, undef, undef, undef, undef, undef, undef, undef, undef, undef, undef, undef, undef, undef, undef], defers := [] }) ?assign ?body ?done ?stop
  case assign =>
    intro l x W K hK
    gi_wp2
    exact hK
  case body =>
    rintro l pre x W ⟨⟨h1, h2, h3, h4⟩, hb⟩ _
    have hlen : (chL mixG bl pre).length = 16 := by rw [chL_len, HBL.out]
    have hsn := chL_snoc mixG bl pre x
    have hkw := kw_lt hby x.val
    have hxl4 := x.isLt
    have r8 := rotl32_lt 8 hkw
    have r16 := rotl32_lt 16 hkw
    have r24 := rotl32_lt 24 hkw
    have x1 := xor_word (two (kw bl x.val)) (three (rotl32 (kw bl x.val) 8)) (two_lt _) (three_lt _)
    have l1 := xor32_lt (two_lt (kw bl x.val)) (three_lt (rotl32 (kw bl x.val) 8))
    have x2 := xor_word _ _ l1 r16
    have l2 := xor32_lt l1 r16
    have x3 := xor_word _ _ l2 r24
    rw [show two (kw bl x.val) ^^^ three (rotl32 (kw bl x.val) 8) ^^^ rotl32 (kw bl x.val) 16 ^^^ rotl32 (kw bl x.val) 24 = mixG x.val (kw bl x.val) from rfl] at x3
    have hP : ∀ wx, NewBut W wx → Calls Try.prog 78 #[.agg (ints .u8 (nn (chL mixG bl pre))).toArray, .int .i64 (x.val : Int), .int .u32 ((mixG x.val (kw bl x.val) : Nat) : Int)] wx fun e w' => e = .returned (.agg (ints .u8 (nn (putC (chL mixG bl pre) x.val (mixG x.val (kw bl x.val))))).toArray) ∧ NewBut W w' := fun wx h =>
      (c_put _ x.val _ wx hlen hxl4).mono fun _ _ ⟨e1, e2⟩ => ⟨e1, h.trans (e2.mono h.size)⟩
    have hE2 : ∀ wx, NewBut W wx → Calls Try.prog 63 #[.int .u32 ((kw bl x.val : Nat) : Int), .func (.func 79) #[] #[]] wx fun e w' => e = .returned (.int .u32 ((two (kw bl x.val) : Nat) : Int)) ∧ NewBut W w' := fun wx h =>
      (c_each_two (kw bl x.val) wx hkw).mono fun _ _ ⟨e1, e2⟩ => ⟨e1, e2 ▸ h⟩
    have hE3 : ∀ wx, NewBut W wx → Calls Try.prog 63 #[.int .u32 ((rotl32 (kw bl x.val) 8 : Nat) : Int), .func (.func 80) #[] #[]] wx fun e w' => e = .returned (.int .u32 ((three (rotl32 (kw bl x.val) 8) : Nat) : Int)) ∧ NewBut W w' := fun wx h =>
      (c_each_three (rotl32 (kw bl x.val) 8) wx r8).mono fun _ _ ⟨e1, e2⟩ => ⟨e1, e2 ▸ h⟩
    have hR8 : ∀ wx, NewBut W wx → Calls Try.prog 64 #[.int .u32 ((kw bl x.val : Nat) : Int), .int .i64 8] wx fun e w' => e = .returned (.int .u32 ((rotl32 (kw bl x.val) 8 : Nat) : Int)) ∧ NewBut W w' := fun wx h =>
      (b_rotl32 (kw bl x.val) 8 wx hkw (by omega) (by omega)).mono fun _ _ ⟨e1, e2⟩ => ⟨e1, e2 ▸ h⟩
    have hR16 : ∀ wx, NewBut W wx → Calls Try.prog 64 #[.int .u32 ((kw bl x.val : Nat) : Int), .int .i64 16] wx fun e w' => e = .returned (.int .u32 ((rotl32 (kw bl x.val) 16 : Nat) : Int)) ∧ NewBut W w' := fun wx h =>
      (b_rotl32 (kw bl x.val) 16 wx hkw (by omega) (by omega)).mono fun _ _ ⟨e1, e2⟩ => ⟨e1, e2 ▸ h⟩
    have hR24 : ∀ wx, NewBut W wx → Calls Try.prog 64 #[.int .u32 ((kw bl x.val : Nat) : Int), .int .i64 24] wx fun e w' => e = .returned (.int .u32 ((rotl32 (kw bl x.val) 24 : Nat) : Int)) ∧ NewBut W w' := fun wx h =>
      (b_rotl32 (kw bl x.val) 24 wx hkw (by omega) (by omega)).mono fun _ _ ⟨e1, e2⟩ => ⟨e1, e2 ▸ h⟩
    have hf1 : ∀ wx, NewBut W wx → wx.cell? ⟨w.heap.size + 1 + 1, 0, none⟩ = some (.func (.func 79) #[] #[]) := fun wx h => by rw [(h3.below h h3.lt).cell]; rfl
    have hf2 : ∀ wx, NewBut W wx → wx.cell? ⟨w.heap.size + 1 + 1 + 1, 0, none⟩ = some (.func (.func 80) #[] #[]) := fun wx h => by rw [(h4.below h h4.lt).cell]; rfl
    have hb0 : ∀ wx, NewBut W wx → Blk wx w.heap.size 23 (ints .u8 (nn (chL mixG bl pre))) := fun wx h => h1.below h h1.lt
    have hll : (putC (chL mixG bl pre) x.val (mixG x.val (kw bl x.val))).length = 16 := by rw [putC_len, hlen]
    generalize putC (chL mixG bl pre) x.val (mixG x.val (kw bl x.val)) = L' at *
    generalize hLg : chL mixG bl pre = L at *
    have HLen := Lib.hid hlen
    have HLL := Lib.hid hll
    have HSN := Lib.hid hsn
    have HP := Lib.hid hP
    have HE2 := Lib.hid hE2
    have HE3 := Lib.hid hE3
    have HR8 := Lib.hid hR8
    have HR16 := Lib.hid hR16
    have HR24 := Lib.hid hR24
    have HF1 := Lib.hid hf1
    have HF2 := Lib.hid hf2
    have HB0 := Lib.hid hb0
    clear hlen hll hsn hP hE2 hE3 hR8 hR16 hR24 hf1 hf2 hb0 hLg hKb l1 l2 r8 r16 r24
    generalize mixG x.val (kw bl x.val) = nv at *
    generalize two (kw bl x.val) ^^^ three (rotl32 (kw bl x.val) 8) ^^^ rotl32 (kw bl x.val) 16 = n2 at *
    generalize two (kw bl x.val) ^^^ three (rotl32 (kw bl x.val) 8) = n1 at *
    generalize two (kw bl x.val) = v2 at *
    generalize three (rotl32 (kw bl x.val) 8) = v3 at *
    generalize rotl32 (kw bl x.val) 8 = q8 at *
    generalize rotl32 (kw bl x.val) 16 = q16 at *
    generalize rotl32 (kw bl x.val) 24 = q24 at *
    generalize kw bl x.val = v at *
    refine wpIn_block ?_
    refine regionIn_quiet_tail (C := NewBut W) l 17 mixed (by kernel_rfl) (by kernel_rfl) (by rintro ⟨_, _, h⟩; exact h) (show Below _ _ _ from (Below.refl _ _).drew) ?_
    simp only [List.take_succ_cons, List.take_zero, List.drop_succ_cons, List.drop_zero]
    refine wpQuiet_load_row rfl 23 _ rfl w.heap.size 0 rfl (ints .u8 (nn L)) (fun wx h => (HB0.out wx h).whole) Try.underlying23 rfl (by rw [size_b16, ints_length, nn_length, HLen.out]) ?_
    repeat (refine wpQuiet_step (fun K' hK' => ?_); go_simp; first | (refine ⟨_, fun _ _ => rfl, hK' _ ?_⟩; clear hK' K') | (refine ⟨.func (.func 79) #[] #[], ?_, hK' _ ?_⟩; (focus (intro wx hx; have hc := HF1.out wx hx; go_simp; done)); clear hK' K') | (refine ⟨.func (.func 80) #[] #[], ?_, hK' _ ?_⟩; (focus (intro wx hx; have hc := HF2.out wx hx; go_simp; done)); clear hK' K') | ((with_reducible refine ⟨_, fun wx hx => HE2.out wx hx, hK' _ ?_⟩); clear hK' K') | ((with_reducible refine ⟨_, fun wx hx => HE3.out wx hx, hK' _ ?_⟩); clear hK' K') | ((with_reducible refine ⟨_, fun wx hx => HR8.out wx hx, hK' _ ?_⟩); clear hK' K') | ((with_reducible refine ⟨_, fun wx hx => HR16.out wx hx, hK' _ ?_⟩); clear hK' K') | ((with_reducible refine ⟨_, fun wx hx => HR24.out wx hx, hK' _ ?_⟩); clear hK' K') | ((with_reducible refine ⟨_, fun wx hx => HP.out wx hx, hK' _ ?_⟩); clear hK' K'))
    refine wpQuiet_nil ?_
    intro w5 hb5
    have h15 := h1.below hb5 h1.lt
    refine wpList_store_blk rfl 23 _ _ rfl w.heap.size (ints .u8 (nn L')) rfl rfl h15 (by rw [size_b16, ints_length, nn_length, HLL.out]) (by rw [ints_length, ints_length, nn_length, nn_length, HLen.out, HLL.out]) (ints_one _ _) ?_
    refine wpList_nil ?_
    have h16 := h15.row (ints .u8 (nn L')) (by rw [ints_length, ints_length, nn_length, nn_length, HLen.out, HLL.out])
    have hl2 := h2.lt
    have hl3 := h3.lt
    have hl4 := h4.lt
    refine ⟨(KeepsOthers.of_below hb5).trans (KeepsOthers.of_row h15 _), fun o ho => ?_, ⟨?_, ?_, ?_, ?_⟩, ?_⟩
    · rw [setRow_other _ _ _ _ (show w.heap.size + 1 + 1 + 1 + 1 ≠ w.heap.size by omega), hb5.block _ (Array.getElem?_eq_some_iff.1 ho).1]
      exact ho
    · rw [HSN.out]; exact h16
    · exact (h2.below hb5 hl2).rowOther (by omega) _
    · exact (h3.below hb5 hl3).rowOther (by omega) _
    · exact (h4.below hb5 hl4).rowOther (by omega) _
    · exact below_setRow (hb.trans (hb5.mono hb.size)) (Nat.le_refl _) _
  case done =>
    rintro D ys W hD rfl ⟨⟨h1, h2, h3, h4⟩, hb⟩ hK
    have hlen : (chL mixG bl (cols 4)).length = 16 := by rw [chL_len, HBL.out]
    have HCL := Lib.hid hlen
    clear hlen
    have HKD := Lib.hid hK
    clear hK hKb
    go_wp2_with (first | (refine wpList_load_blk rfl 23 _ rfl _ rfl h1 Try.underlying23 rfl (by rw [size_b16, ints_length, nn_length, HCL.out]) ?_) | (refine wpList_store_blk rfl 23 _ _ rfl _ _ rfl rfl h2 (by rw [size_b16, ints_length, nn_length, HCL.out]) (by rw [ints_length, ints_length, nn_length, nn_length, HCL.out, zerN_len]) (ints_one _ _) ?_))
    have hDn : D ≠ w.heap.size + 1 := by omega
    have HK2 := (setRow_other W (w.heap.size + 1) D (ints .u8 (nn (chL mixG bl (cols 4)))).toArray hDn).trans HKD.out
    have h5 := h2.row (ints .u8 (nn (chL mixG bl (cols 4)))) (by rw [ints_length, ints_length, nn_length, nn_length, HCL.out, zerN_len])
    have hb5 := below_setRow hb (show w.heap.size ≤ w.heap.size + 1 by omega) (ints .u8 (nn (chL mixG bl (cols 4)))).toArray
    refine ⟨by simp, .inl ⟨_, _, rfl, run_takeDeferred HK2, ?_⟩⟩
    refine ⟨_, results_cell_blk rfl _ _ _ rfl (h5.kept (grownBy_putObj' _ D _) (fun r e => by cases e; exact ⟨_, HK2, rfl⟩)) Try.underlying23 rfl (by rw [size_b16, ints_length, nn_length, HCL.out]), rfl, ?_⟩
    exact hb5.trans (belowK_b (w := w) (Nat.le_refl _) _ D _ _ (by omega) HK2 rfl rfl)
  case stop =>
    rintro D c pre W _ _ h _
    exact h.elim

end Go.Proofs.Ytleofmeejjikmaa
namespace Go.Proofs.Ytleofmeejjikmaa
open Go.RowKit Go.Shelf
set_option linter.unusedVariables false

/-- the rows turned, each by its number of places -/
def turnAt (b : List Nat) (i : Nat) : Nat := b.getD ((i / 4 + i % 4) % 4 * 4 + i % 4) 0
def turnP (b : List Nat) : Nat → List Nat
  | 0 => b
  | i + 1 => (turnP b i).set i (turnAt b i)
def turnL (b : List Nat) : List Nat := turnP b 16
theorem turnP_len (b : List Nat) : ∀ i, (turnP b i).length = b.length
  | 0 => rfl
  | i + 1 => by simp [turnP, turnP_len b i]
theorem turnP_bys {b : List Nat} (h : Bys b) : ∀ i, Bys (turnP b i)
  | 0 => h
  | i + 1 => (turnP_bys h i).set _ _ (h _)
set_option maxHeartbeats 2000000 in
set_option maxRecDepth 100000 in
theorem c_turned (b : List Nat) (w : World) (hb : b.length = 16) :
    Calls Try.prog 67 #[.agg (ints .u8 (nn b)).toArray] w fun e w' => e = .returned (.agg (ints .u8 (nn (turnL b))).toArray) ∧ Below w.heap.size w w' := by
  obtain ⟨L, hL⟩ : ∃ L, turnL b = L := ⟨_, rfl⟩
  have hLL : L.length = 16 := by rw [← hL]; exact (turnP_len _ _).trans hb
  rw [hL]
  have HL := Lib.hid hL
  have HLL := Lib.hid hLL
  have HB := Lib.hid hb
  clear hL hLL hb
  have hk0 : Blk (w.alloc (.cells (ints .u8 (nn b)).toArray 23)) w.heap.size 23 (ints .u8 (nn b)) := Blk.new _ _ _
  have hk1 := hk0.alloc (.cells (ints .u8 (nn (zerN 16))).toArray 23)
  have hk2 : Blk ((w.alloc (.cells (ints .u8 (nn b)).toArray 23)).alloc (.cells (ints .u8 (nn (zerN 16))).toArray 23)) (w.heap.size + 1) 23 (ints .u8 (nn (zerN 16))) := Blk.new2 _ _ _ _ rfl
  have hb2 : Below w.heap.size w ((w.alloc (.cells (ints .u8 (nn b)).toArray 23)).alloc (.cells (ints .u8 (nn (zerN 16))).toArray 23)) := ((Below.refl _ _).alloc (Nat.le_refl _) _).alloc (by simp) _
  have hn2 : ((w.alloc (.cells (ints .u8 (nn b)).toArray 23)).alloc (.cells (ints .u8 (nn (zerN 16))).toArray 23)).heap.size = w.heap.size + 1 + 1 := by simp
  go_enter Try.func67, Try.ntmps67
  go_wp2_with (first | (refine wpList_alloc_at rfl 23 rfl _ _ (alloc_b16 _) ?_) | (refine wpList_load_blk rfl 23 _ rfl _ rfl hk1 Try.underlying23 rfl (by rw [size_b16, ints_length, nn_length, HB.out]) ?_) | (refine wpList_store_blk rfl 23 _ _ rfl _ (ints .u8 (nn b)) rfl rfl (Blk.new' _ 23 (ints .u8 (nn (zerN 16))) rfl) (by rw [size_b16, ints_length, nn_length, HB.out]) (by rw [ints_length, ints_length, nn_length, nn_length, HB.out, zerN_len]) (ints_one _ _) ?_))
  have h3 : Blk ((((w.alloc (.cells (ints .u8 (nn b)).toArray 23)).alloc (.cells (ints .u8 (nn (zerN 16))).toArray 23)).alloc (.cells (ints .u8 (nn (zerN 16))).toArray 23)).setRow (w.heap.size + 1 + 1) (ints .u8 (nn b)).toArray) (w.heap.size + 1 + 1) 23 (ints .u8 (nn (turnP b 0))) := by
    have := Blk.new' ((w.alloc (.cells (ints .u8 (nn b)).toArray 23)).alloc (.cells (ints .u8 (nn (zerN 16))).toArray 23)) 23 (ints .u8 (nn (zerN 16))) rfl
    rw [hn2] at this
    exact this.row (ints .u8 (nn b)) (by rw [ints_length, ints_length, nn_length, nn_length, HB.out, zerN_len])
  have h1 := (hk1.alloc (.cells (ints .u8 (nn (zerN 16))).toArray 23)).rowOther (show w.heap.size ≠ w.heap.size + 1 + 1 by omega) (ints .u8 (nn b)).toArray
  have h2 := (hk2.alloc (.cells (ints .u8 (nn (zerN 16))).toArray 23)).rowOther (show w.heap.size + 1 ≠ w.heap.size + 1 + 1 by omega) (ints .u8 (nn b)).toArray
  have hb3 := below_setRow (hb2.alloc (by rw [hn2]; omega) (.cells (ints .u8 (nn (zerN 16))).toArray 23)) (show w.heap.size ≤ w.heap.size + 1 + 1 by omega) (ints .u8 (nn b)).toArray
  generalize World.setRow _ _ _ = w4 at *
  clear hk0 hk1 hk2 hb2 hn2
  go_loopw [4, 5, 6, 8] (fun _ _ _ i wr => ∃ k : Nat, k ≤ 16 ∧ i = .int .i64 k ∧ Blk wr w.heap.size 23 (ints .u8 (nn b)) ∧ Blk wr (w.heap.size + 1) 23 (ints .u8 (nn (zerN 16))) ∧ Blk wr (w.heap.size + 1 + 1) 23 (ints .u8 (nn (turnP b k))) ∧ Below w.heap.size w wr) (fun _ _ _ i _ => 16 - (intOf i).toNat)
  case atStart => exact ⟨0, by omega, rfl, h1, h2, h3, hb3⟩
  case round =>
    obtain ⟨k, hk16, rfl, g1, g2, g3, hb⟩ := hrel
    clear h1 h2 h3 hb3
    by_cases hlt : k < 16
    · have hs : turnP b (k + 1) = (turnP b k).set k (turnAt b k) := rfl
      have hl := turnP_len b k
      have hc1 := g1.nat (j := (k / 4 + k % 4) % 4 * 4 + k % 4) (by rw [HB.out]; omega)
      rw [show b.getD ((k / 4 + k % 4) % 4 * 4 + k % 4) 0 = turnAt b k from rfl] at hc1
      have hc := g3.nat (j := k) (by rw [hl, HB.out]; omega)
      have hfr := g3.free k
      have Hs := Lib.hid hs
      clear hs hl
      generalize turnAt b k = y at *
      generalize turnP b k = l at *
      obtain ⟨c, hc4, hcI⟩ : ∃ c : Nat, c < 4 ∧ (k : Int) / 4 = (c : Int) ∧ k / 4 = c := ⟨k / 4, by omega, by omega, rfl⟩
      obtain ⟨r, hr4, hrI⟩ : ∃ r : Nat, r < 4 ∧ (k : Int) % 4 = (r : Int) ∧ k % 4 = r := ⟨k % 4, by omega, by omega, rfl⟩
      rw [hcI.2, hrI.2] at hc1
      have j1 := hcI.1
      have j2 := hrI.1
      clear hcI hrI
      have j3 : ((c : Int) + (r : Int)) % 4 * 4 + (r : Int) = (((c + r) % 4 * 4 + r : Nat) : Int) := by omega
      have j4 : (((c : Int) + (r : Int)) % 4 * 4 + (r : Int)).toNat = (c + r) % 4 * 4 + r := by omega
      have j5 : (0 : Int) ≤ ((c : Int) + (r : Int)) % 4 * 4 + (r : Int) := by omega
      have j6 : ((c : Int) + (r : Int)) % 4 * 4 + (r : Int) < 16 := by omega
      have j7 : (k : Int) < 16 := by omega
      clear j3
      go_wp2
      go_roundw
      case rel =>
        refine ⟨k + 1, by omega, by go_num, g1.other (by simp <;> omega) _, g2.other (by simp <;> omega) _, ?_, hb.setCell (by simp <;> omega) _⟩
        rw [Hs.out]
        exact g3.setNat k y
      case measure => simp [intOf]; omega
    · obtain rfl : k = 16 := by omega
      have hE : Blk wr (w.heap.size + 1 + 1) 23 (ints .u8 (nn L)) := by rw [← HL.out]; exact g3
      clear g3
      go_wp2_with (first | (refine wpList_load_blk rfl 23 _ rfl _ rfl hE Try.underlying23 rfl (by rw [size_b16, ints_length, nn_length, HLL.out]) ?_) | (refine wpList_store_blk rfl 23 _ _ rfl _ _ rfl rfl g2 (by rw [size_b16, ints_length, nn_length, HLL.out]) (by rw [ints_length, ints_length, nn_length, nn_length, HLL.out, zerN_len]) (ints_one _ _) ?_))
      refine bodyPost_ret (v := .agg (ints .u8 (nn L)).toArray) (results_cell_blk rfl _ _ _ rfl (g2.row (ints .u8 (nn L)) (by rw [ints_length, ints_length, nn_length, nn_length, HLL.out, zerN_len])) Try.underlying23 rfl (by rw [size_b16, ints_length, nn_length, HLL.out])) rfl ⟨rfl, below_setRow hb (by omega) _⟩
end Go.Proofs.Ytleofmeejjikmaa
namespace Go.Proofs.Ytleofmeejjikmaa
open Go.RowKit Go.Shelf
set_option linter.unusedVariables false

def lookG (_ v : Nat) : Nat := eachN boxG v
/-- a block behind the round r -/
def rnd (K : List Nat) (r : Nat) (b : List Nat) : List Nat :=
  chAll (addG K r) (if r < 14 then chAll mixG (turnL (chAll lookG b)) else turnL (chAll lookG b))
def encN (K b : List Nat) : Nat → List Nat
  | 0 => chAll (addG K 0) b
  | r + 1 => rnd K (r + 1) (encN K b r)
def encL (K b : List Nat) : List Nat := encN K b 14
theorem chAll_len (g : Nat → Nat → Nat) (b : List Nat) : (chAll g b).length = b.length := chL_len _ _ _
theorem chAll_bys (g : Nat → Nat → Nat) {b : List Nat} (h : Bys b) : Bys (chAll g b) := chL_bys _ h _
theorem turnL_len (b : List Nat) : (turnL b).length = b.length := turnP_len _ _
theorem turnL_bys {b : List Nat} (h : Bys b) : Bys (turnL b) := turnP_bys h _
theorem rnd_len (K : List Nat) (r : Nat) (b : List Nat) : (rnd K r b).length = b.length := by
  unfold rnd
  rw [chAll_len]
  split
  · rw [chAll_len, turnL_len, chAll_len]
  · rw [turnL_len, chAll_len]
theorem rnd_bys (K : List Nat) (r : Nat) {b : List Nat} (h : Bys b) : Bys (rnd K r b) := by
  unfold rnd
  refine chAll_bys _ ?_
  split
  · exact chAll_bys _ (turnL_bys (chAll_bys _ h))
  · exact turnL_bys (chAll_bys _ h)
theorem encN_len (K b : List Nat) : ∀ r, (encN K b r).length = b.length
  | 0 => chAll_len _ _
  | r + 1 => (rnd_len _ _ _).trans (encN_len K b r)
theorem encN_bys (K : List Nat) {b : List Nat} (h : Bys b) : ∀ r, Bys (encN K b r)
  | 0 => chAll_bys _ h
  | r + 1 => rnd_bys _ _ (encN_bys K h r)

set_option maxHeartbeats 4000000 in
set_option maxRecDepth 100000 in
theorem c_Encrypt (K b : List Nat) (w : World) (hK : K.length = 60) (hKw : Words K) (hb : b.length = 16) (hby : Bys b) :
    Calls Try.prog 53 #[.agg (ints .u32 (nn K)).toArray, .agg (ints .u8 (nn b)).toArray] w fun e w' => e = .returned (.agg (ints .u8 (nn (encL K b))).toArray) ∧ Below w.heap.size w w' := by
  obtain ⟨L, hL⟩ : ∃ L, encL K b = L := ⟨_, rfl⟩
  have hLL : L.length = 16 := by rw [← hL]; exact (encN_len _ _ _).trans hb
  rw [hL]
  have HL := Lib.hid hL
  have HLL := Lib.hid hLL
  have HB := Lib.hid hb
  have HK := Lib.hid hK
  clear hL hLL hb hK
  have m0 : Blk (w.alloc (.cells (ints .u32 (nn K)).toArray 91)) w.heap.size 91 (ints .u32 (nn K)) := Blk.new _ _ _
  have m1 := m0.alloc (.cells (ints .u8 (nn b)).toArray 23)
  have m2 : Blk ((w.alloc (.cells (ints .u32 (nn K)).toArray 91)).alloc (.cells (ints .u8 (nn b)).toArray 23)) (w.heap.size + 1) 23 (ints .u8 (nn b)) := Blk.new2 _ _ _ _ rfl
  have k0 := m1.alloc (.cells (ints .u8 (nn (zerN 16))).toArray 23)
  have k1 := m2.alloc (.cells (ints .u8 (nn (zerN 16))).toArray 23)
  have k2 : Blk (((w.alloc (.cells (ints .u32 (nn K)).toArray 91)).alloc (.cells (ints .u8 (nn b)).toArray 23)).alloc (.cells (ints .u8 (nn (zerN 16))).toArray 23)) (w.heap.size + 1 + 1) 23 (ints .u8 (nn (zerN 16))) := by
    have := Blk.new2 (w.alloc (.cells (ints .u32 (nn K)).toArray 91)) (.cells (ints .u8 (nn b)).toArray 23) 23 (ints .u8 (nn (zerN 16))) rfl
    rw [World.size_alloc] at this
    exact this
  have kb : Below w.heap.size w (((w.alloc (.cells (ints .u32 (nn K)).toArray 91)).alloc (.cells (ints .u8 (nn b)).toArray 23)).alloc (.cells (ints .u8 (nn (zerN 16))).toArray 23)) := (((Below.refl _ _).alloc (Nat.le_refl _) _).alloc (by simp) _).alloc (by simp; omega) _
  have hBox := fun w => c_Box w
  have HBox := Lib.hid hBox
  clear hBox m0 m1 m2
  go_enter Try.func53, Try.ntmps53
  go_wp2_with (first | (refine wpList_alloc_at rfl 23 rfl _ _ (alloc_b16 _) ?_))
  generalize World.alloc (World.alloc (World.alloc w _) _) _ = w3 at *
  refine (HBox.out _).mono ?_
  rintro e w4 ⟨rfl, hb4⟩
  go_wp2_with fail
  refine (c_finder _).mono ?_
  rintro e w5 ⟨rfl, rfl⟩
  have h0 := (k0.below hb4 k0.lt).alloc (.cells (ints .u8 (nn boxT)).toArray 85)
  have h1 := (k1.below hb4 k1.lt).alloc (.cells (ints .u8 (nn boxT)).toArray 85)
  have h2 := (k2.below hb4 k2.lt).alloc (.cells (ints .u8 (nn boxT)).toArray 85)
  have hx : Blk (w4.alloc (.cells (ints .u8 (nn boxT)).toArray 85)) w4.heap.size 85 (ints .u8 (nn boxT)) := Blk.new _ _ _
  have hw5 : Below w.heap.size w (w4.alloc (.cells (ints .u8 (nn boxT)).toArray 85)) := (kb.trans (hb4.mono kb.size)).alloc (by have := kb.size; have := hb4.size; omega) _
  have hxlt : w.heap.size + 1 + 1 < w4.heap.size := Nat.lt_of_lt_of_le k2.lt hb4.size
  clear k0 k1 k2 kb hb4
  generalize World.alloc w4 _ = w5 at *
  generalize w4.heap.size = bx at *
  go_wp2_with (first | (refine wpList_load_blk rfl 23 _ rfl _ rfl h1 Try.underlying23 rfl (by rw [size_b16, ints_length, nn_length, HB.out]) ?_) | (refine wpList_load_blk rfl 91 _ rfl _ rfl h0 Try.underlying91 rfl (by rw [size_k60, ints_length, nn_length, HK.out]) ?_))
  refine (c_added b K 0 _ HB.out hby HK.out hKw (by omega)).mono ?_
  rintro e w6 ⟨rfl, hb6⟩
  have hl0 : (chAll (addG K 0) b).length = 16 := (chAll_len _ _).trans HB.out
  have HL0 := Lib.hid hl0
  clear hl0
  have i0 := h0.below hb6 h0.lt
  have i1 := h1.below hb6 h1.lt
  have i2 := h2.below hb6 h2.lt
  have ix := hx.below hb6 hx.lt
  have iw := hw5.trans (hb6.mono hw5.size)
  clear h0 h1 h2 hx hw5 hb6
  go_wp2_with (first | (refine wpList_store_blk rfl 23 _ _ rfl _ (ints .u8 (nn (chAll (addG K 0) b))) rfl rfl i1 (by rw [size_b16, ints_length, nn_length, HL0.out]) (by rw [ints_length, ints_length, nn_length, nn_length, HB.out, HL0.out]) (ints_one _ _) ?_))
  have j1 : Blk (w6.setRow (w.heap.size + 1) (ints .u8 (nn (chAll (addG K 0) b))).toArray) (w.heap.size + 1) 23 (ints .u8 (nn (encN K b 0))) := i1.row (ints .u8 (nn (chAll (addG K 0) b))) (by rw [ints_length, ints_length, nn_length, nn_length, HB.out, HL0.out])
  have j0 := i0.rowOther (show w.heap.size ≠ w.heap.size + 1 by omega) (ints .u8 (nn (chAll (addG K 0) b))).toArray
  have j2 := i2.rowOther (show w.heap.size + 1 + 1 ≠ w.heap.size + 1 by omega) (ints .u8 (nn (chAll (addG K 0) b))).toArray
  have jx := ix.rowOther (show bx ≠ w.heap.size + 1 by omega) (ints .u8 (nn (chAll (addG K 0) b))).toArray
  have jw := below_setRow iw (show w.heap.size ≤ w.heap.size + 1 by omega) (ints .u8 (nn (chAll (addG K 0) b))).toArray
  clear i0 i1 i2 ix iw HL0
  generalize World.setRow _ _ _ = w7 at *
  go_loopw [6] (fun i wr => ∃ n : Nat, n ≤ 14 ∧ i = .int .i64 ((n : Int) + 1) ∧ Blk wr (w.heap.size + 1) 23 (ints .u8 (nn (encN K b n))) ∧ Blk wr w.heap.size 91 (ints .u32 (nn K)) ∧ Blk wr (w.heap.size + 1 + 1) 23 (ints .u8 (nn (zerN 16))) ∧ Blk wr bx 85 (ints .u8 (nn boxT)) ∧ Below w.heap.size w wr) (fun i _ => 15 - (intOf i).toNat)
  case atStart => exact ⟨0, by omega, rfl, j1, j0, j2, jx, jw⟩
  case round =>
    obtain ⟨n, hn, rfl, j1, j0, j2, jx, jw⟩ := hrel
    have hlen := (encN_len K b n).trans HB.out
    have hbys := encN_bys K hby n
    have hstep : encN K b (n + 1) = rnd K (n + 1) (encN K b n) := rfl
    have HS := Lib.hid hstep
    clear hstep
    by_cases hlt : n < 14
    · have l1 : (chAll lookG (encN K b n)).length = 16 := (chAll_len _ _).trans hlen
      have l2 : (turnL (chAll lookG (encN K b n))).length = 16 := (turnL_len _).trans l1
      have b2 : Bys (turnL (chAll lookG (encN K b n))) := turnL_bys (chAll_bys _ hbys)
      have l3 : (chAll mixG (turnL (chAll lookG (encN K b n)))).length = 16 := (chAll_len _ _).trans l2
      have b3 : Bys (chAll mixG (turnL (chAll lookG (encN K b n)))) := chAll_bys _ b2
      have hCh := fun w h => c_changed (encN K b n) bx w hlen hbys h
      rw [show chAll (fun _ v => eachN boxG v) (encN K b n) = chAll lookG (encN K b n) from rfl] at hCh
      have hTu := fun w => c_turned (chAll lookG (encN K b n)) w l1
      have hMi := fun w => c_mixed (turnL (chAll lookG (encN K b n))) w l2 b2
      have hAm := fun w => c_added (chAll mixG (turnL (chAll lookG (encN K b n)))) K (n + 1) w l3 b3 HK.out hKw (by omega)
      have hAl := fun w => c_added (turnL (chAll lookG (encN K b n))) K (n + 1) w l2 b2 HK.out hKw (by omega)
      have q1 : n + 1 < 14 → chAll (addG K (n + 1)) (chAll mixG (turnL (chAll lookG (encN K b n)))) = encN K b (n + 1) := fun h => by rw [HS.out]; unfold rnd; rw [if_pos h]
      have q2 : ¬ n + 1 < 14 → chAll (addG K (n + 1)) (turnL (chAll lookG (encN K b n))) = encN K b (n + 1) := fun h => by rw [HS.out]; unfold rnd; rw [if_neg h]
      have l4 := (encN_len K b (n + 1)).trans HB.out
      have HCh := Lib.hid hCh
      have HTu := Lib.hid hTu
      have HMi := Lib.hid hMi
      have HAm := Lib.hid hAm
      have HAl := Lib.hid hAl
      have Q1 := Lib.hid q1
      have Q2 := Lib.hid q2
      have L1 := Lib.hid l1
      have L2 := Lib.hid l2
      have L3 := Lib.hid l3
      have L4 := Lib.hid l4
      have HLen := Lib.hid hlen
      clear hCh hTu hMi hAm hAl q1 q2 l1 l2 l3 l4 b2 b3 HS hlen hbys
      generalize hX4 : encN K b (n + 1) = X4 at *
      have HX := Lib.hid hX4
      clear hX4
      generalize chAll mixG (turnL (chAll lookG (encN K b n))) = X3 at *
      generalize turnL (chAll lookG (encN K b n)) = X2 at *
      generalize chAll lookG (encN K b n) = X1 at *
      generalize encN K b n = X0 at *
      have n1 : (n : Int) + 1 ≤ 14 := by omega
      go_wp2_with (first | (refine wpList_load_blk rfl 23 _ rfl _ rfl j1 Try.underlying23 rfl (by rw [size_b16, ints_length, nn_length, HLen.out]) ?_))
      refine (HCh.out _ jx).mono ?_
      rintro e w1 ⟨rfl, hb1⟩
      go_wp2_with fail
      refine (HTu.out _).mono ?_
      rintro e w2 ⟨rfl, hb2⟩
      have hbb := hb1.trans (hb2.mono hb1.size)
      have i1 := j1.below hbb j1.lt
      have i0 := j0.below hbb j0.lt
      have i2 := j2.below hbb j2.lt
      have ix := jx.below hbb jx.lt
      have iw := jw.trans (hbb.mono jw.size)
      clear j1 j0 j2 jx jw hb1 hb2 hbb
      by_cases h14 : n + 1 < 14
      · have n2 : (n : Int) + 1 < 14 := by omega
        have X4e := Q1.out h14
        have HX4 := Lib.hid X4e
        clear X4e
        go_wp2_with (first | (refine wpList_store_blk rfl 23 _ _ rfl _ (ints .u8 (nn X2)) rfl rfl i1 (by rw [size_b16, ints_length, nn_length, L2.out]) (by rw [ints_length, ints_length, nn_length, nn_length, HLen.out, L2.out]) (ints_one _ _) ?_) | (refine wpList_load_blk rfl 23 _ rfl _ rfl (i1.row (ints .u8 (nn X2)) (by rw [ints_length, ints_length, nn_length, nn_length, HLen.out, L2.out])) Try.underlying23 rfl (by rw [size_b16, ints_length, nn_length, L2.out]) ?_))
        have j1 := i1.row (ints .u8 (nn X2)) (by rw [ints_length, ints_length, nn_length, nn_length, HLen.out, L2.out])
        have j0 := i0.rowOther (show w.heap.size ≠ w.heap.size + 1 by omega) (ints .u8 (nn X2)).toArray
        have j2 := i2.rowOther (show w.heap.size + 1 + 1 ≠ w.heap.size + 1 by omega) (ints .u8 (nn X2)).toArray
        have jx := ix.rowOther (show bx ≠ w.heap.size + 1 by omega) (ints .u8 (nn X2)).toArray
        have jw := below_setRow iw (show w.heap.size ≤ w.heap.size + 1 by omega) (ints .u8 (nn X2)).toArray
        clear i0 i1 i2 ix iw
        generalize World.setRow _ _ _ = w3 at *
        refine (HMi.out _).mono ?_
        rintro e w4 ⟨rfl, hb4⟩
        have i1 := j1.below hb4 j1.lt
        have i0 := j0.below hb4 j0.lt
        have i2 := j2.below hb4 j2.lt
        have ix := jx.below hb4 jx.lt
        have iw := jw.trans (hb4.mono jw.size)
        clear j1 j0 j2 jx jw hb4
        go_wp2_with (first | (refine wpList_store_blk rfl 23 _ _ rfl _ (ints .u8 (nn X3)) rfl rfl i1 (by rw [size_b16, ints_length, nn_length, L3.out]) (by rw [ints_length, ints_length, nn_length, nn_length, L2.out, L3.out]) (ints_one _ _) ?_) | (refine wpList_load_blk rfl 23 _ rfl _ rfl (i1.row (ints .u8 (nn X3)) (by rw [ints_length, ints_length, nn_length, nn_length, L2.out, L3.out])) Try.underlying23 rfl (by rw [size_b16, ints_length, nn_length, L3.out]) ?_) | (refine wpList_load_blk rfl 91 _ rfl _ rfl (i0.rowOther (show w.heap.size ≠ w.heap.size + 1 by omega) _) Try.underlying91 rfl (by rw [size_k60, ints_length, nn_length, HK.out]) ?_))
        have j1 := i1.row (ints .u8 (nn X3)) (by rw [ints_length, ints_length, nn_length, nn_length, L2.out, L3.out])
        have j0 := i0.rowOther (show w.heap.size ≠ w.heap.size + 1 by omega) (ints .u8 (nn X3)).toArray
        have j2 := i2.rowOther (show w.heap.size + 1 + 1 ≠ w.heap.size + 1 by omega) (ints .u8 (nn X3)).toArray
        have jx := ix.rowOther (show bx ≠ w.heap.size + 1 by omega) (ints .u8 (nn X3)).toArray
        have jw := below_setRow iw (show w.heap.size ≤ w.heap.size + 1 by omega) (ints .u8 (nn X3)).toArray
        clear i0 i1 i2 ix iw
        generalize World.setRow _ _ _ = w5 at *
        refine (HAm.out _).mono ?_
        rw [HX4.out]
        rintro e w6 ⟨rfl, hb6⟩
        have i1 := j1.below hb6 j1.lt
        have i0 := j0.below hb6 j0.lt
        have i2 := j2.below hb6 j2.lt
        have ix := jx.below hb6 jx.lt
        have iw := jw.trans (hb6.mono jw.size)
        clear j1 j0 j2 jx jw hb6
        go_wp2_with (first | (refine wpList_store_blk rfl 23 _ _ rfl _ (ints .u8 (nn X4)) rfl rfl i1 (by rw [size_b16, ints_length, nn_length, L4.out]) (by rw [ints_length, ints_length, nn_length, nn_length, L3.out, L4.out]) (ints_one _ _) ?_))
        go_roundw
        case rel =>
          refine ⟨n + 1, by omega, by go_num, ?_, ?_, ?_, ?_, ?_⟩
          · rw [HX.out]; exact i1.row (ints .u8 (nn X4)) (by rw [ints_length, ints_length, nn_length, nn_length, L3.out, L4.out])
          · exact i0.rowOther (by omega) _
          · exact i2.rowOther (by omega) _
          · exact ix.rowOther (by omega) _
          · exact below_setRow iw (by omega) _
        case measure => simp [intOf]; omega
      · obtain rfl : n = 13 := by omega
        have X4e := Q2.out h14
        have HX4 := Lib.hid X4e
        clear X4e
        go_wp2_with (first | (refine wpList_store_blk rfl 23 _ _ rfl _ (ints .u8 (nn X2)) rfl rfl i1 (by rw [size_b16, ints_length, nn_length, L2.out]) (by rw [ints_length, ints_length, nn_length, nn_length, HLen.out, L2.out]) (ints_one _ _) ?_) | (refine wpList_load_blk rfl 23 _ rfl _ rfl (i1.row (ints .u8 (nn X2)) (by rw [ints_length, ints_length, nn_length, nn_length, HLen.out, L2.out])) Try.underlying23 rfl (by rw [size_b16, ints_length, nn_length, L2.out]) ?_) | (refine wpList_load_blk rfl 91 _ rfl _ rfl (i0.rowOther (show w.heap.size ≠ w.heap.size + 1 by omega) _) Try.underlying91 rfl (by rw [size_k60, ints_length, nn_length, HK.out]) ?_))
        have j1 := i1.row (ints .u8 (nn X2)) (by rw [ints_length, ints_length, nn_length, nn_length, HLen.out, L2.out])
        have j0 := i0.rowOther (show w.heap.size ≠ w.heap.size + 1 by omega) (ints .u8 (nn X2)).toArray
        have j2 := i2.rowOther (show w.heap.size + 1 + 1 ≠ w.heap.size + 1 by omega) (ints .u8 (nn X2)).toArray
        have jx := ix.rowOther (show bx ≠ w.heap.size + 1 by omega) (ints .u8 (nn X2)).toArray
        have jw := below_setRow iw (show w.heap.size ≤ w.heap.size + 1 by omega) (ints .u8 (nn X2)).toArray
        clear i0 i1 i2 ix iw
        generalize World.setRow _ _ _ = w5 at *
        refine (HAl.out _).mono ?_
        rw [HX4.out]
        rintro e w6 ⟨rfl, hb6⟩
        have i1 := j1.below hb6 j1.lt
        have i0 := j0.below hb6 j0.lt
        have i2 := j2.below hb6 j2.lt
        have ix := jx.below hb6 jx.lt
        have iw := jw.trans (hb6.mono jw.size)
        clear j1 j0 j2 jx jw hb6
        go_wp2_with (first | (refine wpList_store_blk rfl 23 _ _ rfl _ (ints .u8 (nn X4)) rfl rfl i1 (by rw [size_b16, ints_length, nn_length, L4.out]) (by rw [ints_length, ints_length, nn_length, nn_length, L2.out, L4.out]) (ints_one _ _) ?_))
        go_roundw
        case rel =>
          refine ⟨13 + 1, by omega, by first | rfl | go_num, ?_, ?_, ?_, ?_, ?_⟩
          · rw [HX.out]; exact i1.row (ints .u8 (nn X4)) (by rw [ints_length, ints_length, nn_length, nn_length, L2.out, L4.out])
          · exact i0.rowOther (by omega) _
          · exact i2.rowOther (by omega) _
          · exact ix.rowOther (by omega) _
          · exact below_setRow iw (by omega) _
        case measure => simp [intOf]
    · obtain rfl : n = 14 := by omega
      have hE : Blk wr (w.heap.size + 1) 23 (ints .u8 (nn L)) := by rw [← HL.out]; exact j1
      clear j1 HS hlen hbys
      go_wp2_with (first | (refine wpList_load_blk rfl 23 _ rfl _ rfl hE Try.underlying23 rfl (by rw [size_b16, ints_length, nn_length, HLL.out]) ?_) | (refine wpList_store_blk rfl 23 _ _ rfl _ _ rfl rfl j2 (by rw [size_b16, ints_length, nn_length, HLL.out]) (by rw [ints_length, ints_length, nn_length, nn_length, HLL.out, zerN_len]) (ints_one _ _) ?_))
      refine bodyPost_ret (v := .agg (ints .u8 (nn L)).toArray) (results_cell_blk rfl _ _ _ rfl (j2.row (ints .u8 (nn L)) (by rw [ints_length, ints_length, nn_length, nn_length, HLL.out, zerN_len])) Try.underlying23 rfl (by rw [size_b16, ints_length, nn_length, HLL.out])) rfl ⟨rfl, below_setRow jw (by omega) _⟩
end Go.Proofs.Ytleofmeejjikmaa
