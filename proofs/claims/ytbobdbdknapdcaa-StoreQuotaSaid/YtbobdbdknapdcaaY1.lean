/- What an area's frames are, told one by one; sectors written by their places (stage 14, the program's). -/
import Derived.Test.YtbobdbdknapdcaaYNum
import Derived.Test.YtbobdbdknapdcaaKB
import Derived.Test.YtbobdbdknapdcaaG1
import Derived.Test.YtbobdbdknapdcaaJ1
import Derived.IntWalk
import Derived.Test.YtbobdbdknapdcaaZA
import Derived.BigQuiet
import Derived.Test.YtbobdbdknapdcaaZB
import Derived.Test.YtbobdbdknapdcaaFC
import Derived.Test.YtbobdbdknapdcaaG4
import Derived.Maps.OwnIn
namespace Go.Proofs.Ytbobdbdknapdcaa
open Go.RowKit
set_option linter.unusedVariables false

/-- the frames from sector t on: what is in each, and how many sectors are taken with it -/
def frJF (s : List Nat) : Nat → Nat → List (List Nat × Nat)
  | 0, _ => []
  | f + 1, t => if (firstK (s.drop (32 * t))).2.2 ≠ 0 then [] else
      ((firstK (s.drop (32 * t))).1, t + secK (firstK (s.drop (32 * t))).1.length) :: frJF s f (t + secK (firstK (s.drop (32 * t))).1.length)
def frJ (s : List Nat) (t : Nat) : List (List Nat × Nat) := frJF s (s.length + 1) t
theorem frJF_fuel (s : List Nat) : ∀ (f g t : Nat), s.length - 32 * t < f → s.length - 32 * t < g → frJF s f t = frJF s g t
  | 0, _, t, h, _ => by omega
  | _, 0, t, _, h => by omega
  | f + 1, g + 1, t, hf, hg => by
    rw [frJF, frJF]
    split
    · rfl
    · rename_i h
      have h0 : (firstK (s.drop (32 * t))).2.2 = 0 := by simpa using h
      have hi := (first_is (t := s.drop (32 * t)) (x := (firstK (s.drop (32 * t))).1) (r := (firstK (s.drop (32 * t))).2.1) (by rw [← h0])).1
      rw [List.length_drop] at hi
      have hp := secK_pos (firstK (s.drop (32 * t))).1.length
      rw [frJF_fuel s f g _ (by omega) (by omega)]
theorem frJ_step {s x r : List Nat} {t : Nat} (h : firstK (s.drop (32 * t)) = (x, r, 0)) : frJ s t = (x, t + secK x.length) :: frJ s (t + secK x.length) := by
  have hi := (first_is h).1
  rw [List.length_drop] at hi
  have hp := secK_pos x.length
  unfold frJ
  rw [frJF, h]
  simp only [ne_eq, not_true_eq_false, if_false]
  rw [frJF_fuel s s.length (s.length + 1) _ (by omega) (by omega)]
theorem frJ_stop {s : List Nat} {t : Nat} (h : (firstK (s.drop (32 * t))).2.2 ≠ 0) : frJ s t = [] := by unfold frJ; rw [frJF, if_pos h]
/-- how many sectors are taken -/
def lastJ (t : Nat) (l : List (List Nat × Nat)) : Nat := match l.getLast? with | none => t | some x => x.2
theorem lastJ_cons (t : Nat) (x : List Nat × Nat) (l : List (List Nat × Nat)) : lastJ t (x :: l) = lastJ x.2 l := by
  unfold lastJ
  rw [List.getLast?_cons]
  cases l.getLast? <;> rfl
theorem lastJ_snoc (t : Nat) (l : List (List Nat × Nat)) (x : List Nat × Nat) : lastJ t (l ++ [x]) = x.2 := by
  unfold lastJ
  rw [List.getLast?_concat]
theorem frJ_all : ∀ (m : Nat) (s : List Nat) (t : Nat), s.length - 32 * t ≤ m → (frJ s t).map (·.1) = (scanK (s.drop (32 * t))).1 ∧ lastJ t (frJ s t) = t + (scanK (s.drop (32 * t))).2
  | m, s, t, hm => by
    by_cases h : (firstK (s.drop (32 * t))).2.2 = 0
    · obtain ⟨x, r, hf⟩ : ∃ x r, firstK (s.drop (32 * t)) = (x, r, 0) := ⟨(firstK (s.drop (32 * t))).1, (firstK (s.drop (32 * t))).2.1, by rw [← h]⟩
      have hi := (first_is hf).1
      rw [List.length_drop] at hi
      have hp := secK_pos x.length
      have hd : (s.drop (32 * t)).drop (32 * secK x.length) = s.drop (32 * (t + secK x.length)) := by rw [List.drop_drop]; congr 1; omega
      match m, hm with
      | 0, hm => omega
      | m + 1, hm =>
        have ih := frJ_all m s (t + secK x.length) (by omega)
        rw [frJ_step hf, scan_step hf, hd]
        refine ⟨by rw [List.map_cons, ih.1], ?_⟩
        rw [lastJ_cons, ih.2]
        show _ = t + (_ + _)
        exact Nat.add_assoc _ _ _
    · rw [frJ_stop h, scan_stop h]
      exact ⟨rfl, rfl⟩
theorem frJ_scan (s : List Nat) : (frJ s 0).map (·.1) = (scanK s).1 ∧ lastJ 0 (frJ s 0) = (scanK s).2 := by
  have h := frJ_all s.length s 0 (by omega)
  rw [Nat.mul_zero, List.drop_zero, Nat.zero_add] at h
  exact h
/-! ### sectors by their places -/
def pcJ (p : List Nat) (i : Nat) : List Nat := (p.drop (32 * i)).take 32
theorem chunks_map : ∀ (k : Nat) (l : List Nat), chunksK k l = (List.range k).map (pcJ l)
  | 0, _ => rfl
  | k + 1, l => by
    rw [chunksK, chunks_map k, List.range_succ_eq_map, List.map_cons, List.map_map]
    congr 1
    refine List.map_congr_left fun i _ => ?_
    show ((l.drop 32).drop (32 * i)).take 32 = (l.drop (32 * (i + 1))).take 32
    rw [List.drop_drop, show 32 + 32 * i = 32 * (i + 1) by omega]
theorem writes_snoc : ∀ (l : List (List Nat)) (d : DiskM) (a : Nat) (x : List Nat), writesD d a (l ++ [x]) = writeD (writesD d a l) (a + l.length) x
  | [], d, a, x => rfl
  | s :: l, d, a, x => by
    rw [List.cons_append, writesD, writes_snoc l, List.length_cons, writesD, show a + 1 + l.length = a + (l.length + 1) by omega]
def wrsJ (d : DiskM) (a : Nat) (p : List Nat) (is : List Nat) : DiskM := is.foldl (fun d i => writeD d (a + i) (pcJ p i)) d
theorem wrsJ_snoc (d : DiskM) (a : Nat) (p : List Nat) (is : List Nat) (i : Nat) : wrsJ d a p (is ++ [i]) = writeD (wrsJ d a p is) (a + i) (pcJ p i) := by
  unfold wrsJ; rw [List.foldl_append]; rfl
theorem wrsJ_all (d : DiskM) (a : Nat) (p : List Nat) : ∀ n, wrsJ d a p (List.range n) = writesD d a (chunksK n p)
  | 0 => rfl
  | n + 1 => by
    rw [List.range_succ, wrsJ_snoc, wrsJ_all d a p n, chunks_map (n + 1), List.range_succ, List.map_append, ← chunks_map, List.map_singleton, writes_snoc, chunks_len]
theorem wrsJ_sec (a : Nat) (p : List Nat) : ∀ (is : List Nat) (d : DiskM), (wrsJ d a p is).sec = d.sec ∧ (wrsJ d a p is).cut = d.cut
  | [], d => ⟨rfl, rfl⟩
  | i :: is, d => by
    have := wrsJ_sec a p is (writeD d (a + i) (pcJ p i))
    exact this
theorem pc_len {p : List Nat} {n i : Nat} (hp : p.length = 32 * n) (hi : i < n) : (pcJ p i).length = 32 := by
  unfold pcJ; rw [List.length_take, List.length_drop]; omega
theorem pc_bys {p : List Nat} (h : Bys p) (i : Nat) : Bys (pcJ p i) := (h.drop _).take _
theorem dkn_wrs {a n : Nat} {p : List Nat} (hp : p.length = 32 * n) (hb : Bys p) : ∀ (is : List Nat) {d : DiskM} {k : Nat}, DkN d k → a + n ≤ d.sec.length → (∀ i ∈ is, i < n) → DkN (wrsJ d a p is) (k + is.length)
  | [], d, k, h, _, _ => h
  | i :: is, d, k, h, hs, hi => by
    have h0 := hi i (by simp)
    have := dkn_wrs hp hb is (dkn_write1 h (i := a + i) (by omega) (pc_len hp h0) (pc_bys hb i)) (by rw [safe_write]; exact hs) fun j hj => hi j (by simp [hj])
    rw [List.length_cons, show k + (is.length + 1) = k + 1 + is.length by omega]
    exact this
/-- a text, filled up to whole sectors -/
def fillJ (l : List Nat) (n : Nat) : List Nat := l ++ zerN (32 * n - l.length)
theorem fill_len {l : List Nat} {n : Nat} (h : l.length ≤ 32 * n) : (fillJ l n).length = 32 * n := by
  unfold fillJ; rw [List.length_append, zerN_len]; omega
theorem fill_bys {l : List Nat} (h : Bys l) (n : Nat) : Bys (fillJ l n) := h.app (zer_bys _)
/-- what put makes of a disk -/
def putD (d : DiskM) (a n : Nat) (l : List Nat) : DiskM := syncD (writesD d a (chunksK n (fillJ l n)))
end Go.Proofs.Ytbobdbdknapdcaa
namespace Go.Proofs.Ytbobdbdknapdcaa
open Go.RowKit Go.Shelf
set_option linter.unusedVariables false

attribute [local go_sem] Oper.semAt_some

theorem j_sectorsFor (z : Int) (h0 : 0 ≤ z) (h1 : z ≤ 1000000) (k : Nat) (hk : (z + 31) / 32 = (k : Int)) (w : World) :
    Calls Try.prog 40 #[.int .i64 z] w fun e w' => e = .returned (.int .i64 (k : Int)) ∧ w' = w := by
  have h2 : (z + 32 - 1).tdiv 32 = (k : Int) := by rw [Int.tdiv_eq_ediv_of_nonneg (by omega)]; omega
  have h3 : (z + 31).tdiv 32 = (k : Int) := by rw [Int.tdiv_eq_ediv_of_nonneg (by omega)]; omega
  have h4 : (k : Int) ≤ 1000000 := by omega
  have h5 : (0 : Int) ≤ (k : Int) := by omega
  clear hk
  go_enter Try.func40, Try.ntmps40
  go_wp2
  go_ret
  exact ⟨rfl, rfl⟩
set_option maxRecDepth 100000 in
set_option maxHeartbeats 2000000 in
/-- the iterator, for every body that keeps its block -/
theorem j_fr_in (n l G : Nat) (s : ByteArray) (m : Nat) (hm : s.size = 32 * m) (hs : m ≤ 1000) (J Jx : List (List Nat × Nat) → World → Prop) (hn : 2 ≤ n) (W : World) (hJ : AbidesFrom W.heap.size J)
    (hY : ∀ pre x W1, (x : List Nat × Nat).2 ≤ m → J pre W1 → pre.length < m → YieldAt Fence.wide (n - 1) Try.prog l #[.string (tx x.1), .int .i64 (x.2 : Int)] W1 fun e W' =>
      (e = .returned (.bool true) ∧ J (pre ++ [x]) W' ∧ (∀ o, W1.heap[G]? = some o → W'.heap[G]? = some o)) ∨ (e = .returned (.bool false) ∧ Jx (pre ++ [x]) W'))
    (hG : Blk W G 9 [.string s]) (h0 : J [] W) :
    CallsIn Fence.wide n Try.prog 64 #[.func (.yield l) #[] #[], .pointer (some ⟨G, 0, none⟩)] W fun e W' => (∃ v, e = .returned v) ∧
      ((∃ ys, ys = frJ (sl s) 0 ∧ J ys W') ∨ (∃ pre, True ∧ Jx pre W')) := by
  have HM := Lib.hid hm
  clear hm
  refine callsIn_of_wp Try.func64 rfl trivial ?_ rfl
  simp only [Try.ntmps64, List.size_toArray, List.length_cons, List.length_nil, Nat.reduceAdd, Nat.reduceSub, Array.replicate_succ, Array.replicate_zero, List.push_toArray, List.append_toArray, List.nil_append, List.cons_append]
  gi_wp2
  gi_loopw [3, 4, 5, 6] (fun v _ _ _ wr => ∃ (t : Nat) (pre : List (List Nat × Nat)), v = .int .i64 (t : Int) ∧ t ≤ m ∧ J pre wr ∧ Blk wr G 9 [.string s] ∧ frJ (sl s) 0 = pre ++ frJ (sl s) t ∧ pre.length ≤ t) (fun v _ _ _ _ => m + 1 - (intOf v).toNat)
  case atStart => exact ⟨0, [], rfl, Nat.zero_le _, h0, hG, rfl, Nat.le_refl _⟩
  case round =>
    obtain ⟨t, pre, rfl, ht, gJ, gG, hE, hlen⟩ := hrel
    have c1 := gG.cell 0
    simp only [List.getElem?_cons_zero] at c1
    obtain ⟨T, hT⟩ : ∃ T, s.extract (32 * t) s.size = T := ⟨_, rfl⟩
    have hTs : sl T = (sl s).drop (32 * t) := by rw [← hT, tail_tx, sl_tx ((sl_bys s).drop _)]
    have hTz : T.size ≤ 60000 := by
      have := sl_len T
      rw [hTs, List.length_drop, sl_len] at this
      have := HM.out
      omega
    have e1 : ((t : Int) * 32).toNat = 32 * t := by omega
    have e2 : (0 : Int) ≤ (t : Int) * 32 := by omega
    have e3 : (t : Int) * 32 ≤ (s.size : Int) := by have := HM.out; omega
    have e4 : (s.size : Int) ≤ 32000 := by have := HM.out; omega
    by_cases h : (firstK (sl T)).2.2 = 0
    · have hf : firstK (sl T) = ((firstK (sl T)).1, (firstK (sl T)).2.1, 0) := by rw [← h]
      obtain ⟨x, hx⟩ : ∃ x, (firstK (sl T)).1 = x := ⟨_, rfl⟩
      obtain ⟨r, hr⟩ : ∃ r, (firstK (sl T)).2.1 = r := ⟨_, rfl⟩
      rw [hx, hr] at hf
      have hi := (first_is hf).1
      have hst := frJ_step (s := sl s) (t := t) (x := x) (r := r) (by rw [← hTs]; exact hf)
      rw [hst] at hE
      have hp := secK_pos x.length
      have hk : 32 * t + (6 + x.length + r.length) = s.size := by
        rw [hTs, List.length_drop, sl_len] at hi
        omega
      obtain ⟨t', ht'⟩ : ∃ t', t + secK x.length = t' := ⟨_, rfl⟩
      rw [ht'] at hE
      have hle : t' ≤ m := by have := HM.out; rw [← ht']; unfold secK; omega
      have hgt : t < t' := by omega
      have hrz : (tx r).size = r.length := tx_size r
      have hS := fun w => j_sectorsFor ((s.size : Int) - ((tx r).size : Int)) (by have := HM.out; omega) (by omega) t' (by rw [hrz, ← ht']; unfold secK; omega) w
      have e5 : ((tx r).size : Int) ≤ (s.size : Int) := by omega
      have e6 : (0 : Int) ≤ ((tx r).size : Int) := by omega
      have HC := Lib.hid (fun w => k_First_ok T w hTz x r hf)
      have HS := Lib.hid hS
      have HE := Lib.hid hE
      have HT := Lib.hid hT
      clear hS hE hf hx hr h hi hp hst hTs hTz hT hk ht' hrz
      gi_wp2_with fail
      refine ⟨trivial, fun h => by simp [Fence.wide] at h, callsIn_wide.2 ?_⟩
      rw [HT.out]
      refine (HC.out _).mono ?_
      rintro e w1 ⟨rfl, hb1⟩
      have gJ1 := hJ _ wr _ none gJ (grown_below hb1) (fun r e => by cases e)
      have gG1 := gG.below hb1 gG.lt
      have c2 := gG1.cell 0
      simp only [List.getElem?_cons_zero] at c2
      have hz1 := hb1.size
      obtain ⟨fn, tmps, assign, body, hy, hR⟩ := hY pre (x, t') w1 hle gJ1 (by omega)
      dsimp only at hy
      generalize tx r = R at *
      generalize tx x = X at *
      clear gJ c1
      gi_wp2_with fail
      refine ⟨trivial, fun h => by simp [Fence.wide] at h, callsIn_wide.2 ((HS.out _).mono ?_)⟩
      rintro e w2 ⟨rfl, rfl⟩
      gi_wp2
      first | refine hR.mono ?_ | refine ⟨fun _ => by omega, hR.mono ?_⟩
      rintro e W3 (⟨rfl, hJ3, hG3⟩ | ⟨rfl, hJx3⟩)
      · have HG3 := Lib.hid (hG3 _ gG1)
        have HJ3 := Lib.hid hJ3
        clear hG3 hJ3
        gi_wp2
        go_roundw
        case rel => exact ⟨t', pre ++ [(x, t')], rfl, hle, HJ3.out, HG3.out, by rw [HE.out, List.append_assoc]; rfl, by simp; omega⟩
        case measure => simp [intOf]; omega
      · gi_wp2
        refine bodyPost_ret (results_none rfl _ _ _) rfl ?_
        exact ⟨⟨_, rfl⟩, .inr ⟨_, trivial, hJx3⟩⟩
    · have hC := fun w => k_First_no T w hTz h
      have HE : Hid (frJ (sl s) 0 = pre) := Lib.hid (by rw [hE, frJ_stop (by rw [← hTs]; exact h), List.append_nil])
      have hle := first_err (sl T)
      have HC := Lib.hid hC
      have HS := Lib.hid (fun w => j_sectorsFor (s.size : Int) (by omega) (by omega) m (by have := HM.out; omega) w)
      have HT := Lib.hid hT
      clear hC hE hTs hTz hT
      generalize (firstK (sl T)).2.2 = er at *
      have g1 : ((er : Int) != 0) = true := by simp; omega
      gi_wp2_with fail
      refine ⟨trivial, fun h => by simp [Fence.wide] at h, callsIn_wide.2 ?_⟩
      rw [HT.out]
      refine (HC.out _).mono ?_
      rintro e w1 ⟨rfl, hb1⟩
      have gJ1 := hJ _ wr _ none gJ (grown_below hb1) (fun r e => by cases e)
      have gG1 := gG.below hb1 gG.lt
      have c2 := gG1.cell 0
      simp only [List.getElem?_cons_zero] at c2
      clear c1 gJ
      gi_wp2_with fail
      refine ⟨trivial, fun h => by simp [Fence.wide] at h, callsIn_wide.2 ((HS.out _).mono ?_)⟩
      rintro e w2 ⟨rfl, rfl⟩
      gi_wp2
      refine ⟨fun f hf => (by cases hf), ?_⟩
      gi_wp2
      refine bodyPost_ret (results_none rfl _ _ _) rfl ?_
      exact ⟨⟨_, rfl⟩, .inl ⟨_, HE.out.symm, gJ1⟩⟩
end Go.Proofs.Ytbobdbdknapdcaa
namespace Go.Proofs.Ytbobdbdknapdcaa
open Go.RowKit
set_option linter.unusedVariables false

/-- an area, a journal in memory -/
def arV (D fr to : Nat) : List Value := [ptD D, .int .i64 (fr : Int), .int .i64 (to : Int)]
def juV (D : Nat) (m : JurM) : List Value := [ptD D, .int .i64 (m.fr : Int), .int .i64 (m.to : Int), .int .i64 (m.nx : Int)]
theorem size_ar : (Try.prog.info? 93).map (·.size) = some 3 := by kernel_rfl
theorem Turn.then {base : Nat} {w w1 w2 : World} {F F1 F2 : Nat → Prop} (t : Turn base w w1 F F1) (hb : Below w.heap.size w1 w2) (hw : base ≤ w.heap.size) (hF : ∀ i, F2 i → F1 i ∨ w.heap.size ≤ i) : Turn base w w2 F F2 :=
  ⟨t.b.trans (hb.mono hw), fun i hi hn => (hb.block i hi).trans (t.out i hi hn), fun i hi => (hF i hi).elim (t.new i) .inr⟩
theorem j_Room (J D : Nat) (m : JurM) (w : World) (hJ : Blk w J 95 (juV D m)) (hm : m.fr ≤ m.nx ∧ m.nx ≤ m.to ∧ m.to ≤ 4096) (r : Nat) (hr : m.to - m.nx = r) :
    Calls Try.prog 23 #[ptD J] w fun x w' => x = .returned (.int .i64 (r : Int)) ∧ Below w.heap.size w w' := by
  have c2 := hJ.cell 2
  have c3 := hJ.cell 3
  unfold juV at c2 c3
  simp only [List.getElem?_cons_zero, List.getElem?_cons_succ] at c2 c3
  obtain ⟨h1, h2, h3⟩ := hm
  obtain ⟨fr, to, nx⟩ := m
  dsimp only at *
  have e : (to : Int) - (nx : Int) = (r : Int) := by omega
  have i1 : (nx : Int) ≤ (to : Int) := by omega
  have i2 : (to : Int) ≤ 4096 := by omega
  have HE := Lib.hid e
  unfold ptD
  clear e hr h1 h2 h3 hJ
  go_enter Try.func23, Try.ntmps23
  go_wp2
  go_quiet (fail)
  go_wp2
  go_ret
  exact ⟨by rw [← HE.out]; rfl, below_drewN (Below.refl _ _) _⟩
theorem j_areaOf {w : World} {base D S M k : Nat} {E : DataW Unit} {V : Nat → Value} {q : Option (Nat × Int)} {d : DiskM} (h : DkW w base D S M k E V q d) (hb : d.sec.length ≤ 4096) (fr to : Nat) (hlt : fr < to) (hto : to ≤ d.sec.length) :
    Calls Try.prog 46 #[ptD D, .int .i64 (fr : Int), .int .i64 (to : Int)] w fun e w' => e = .returned (.tuple #[.agg (arV D fr to).toArray, .int .i64 0]) ∧ Below w.heap.size w w' := by
  obtain ⟨w1, hw1⟩ : ∃ w1, w.alloc (.cells #[.pointer none, .int .i64 0, .int .i64 0] 93) = w1 := ⟨_, rfl⟩
  have hb1 : Below w.heap.size w w1 := by rw [← hw1]; exact (Below.refl w.heap.size w).alloc (Nat.le_refl _) _
  have k1 : Blk w1 w.heap.size 93 [.pointer none, .int .i64 0, .int .i64 0] := by rw [← hw1]; exact Blk.new w _ _
  have HS := Lib.hid (d_Sectors (h.below hb1))
  have K1 := Lib.hid k1
  have K2 := Lib.hid (k1.row (arV D fr to) rfl)
  have KB := Lib.hid (below_setRow hb1 (b := w.heap.size) (Nat.le_refl _) (arV D fr to).toArray)
  have d1 : ¬ (fr : Int) < 0 := by omega
  have d2 : ¬ (to : Int) ≤ (fr : Int) := by omega
  have d3 : ¬ (d.sec.length : Int) < (to : Int) := by omega
  have e1 : decide ((fr : Int) < 0) = false := decide_eq_false d1
  have e2 : decide ((to : Int) ≤ (fr : Int)) = false := decide_eq_false d2
  have e3 : decide ((d.sec.length : Int) < (to : Int)) = false := decide_eq_false d3
  unfold ptD at HS ⊢
  unfold arV ptD at K2 KB ⊢
  clear h hb hlt hto hb1 k1
  generalize d.sec.length = n at *
  go_enter Try.func46, Try.ntmps46
  go_wp2_with (first | (go_at_call 61; (with_reducible refine HS.out.mono ?_); rintro e w2 ⟨rfl, rfl⟩) | (refine wpList_store_blk rfl 93 _ _ rfl w.heap.size [.pointer (some ⟨D, 0, none⟩), .int .i64 (fr : Int), .int .i64 (to : Int)] rfl rfl K1.out (by rw [size_ar]; rfl) rfl (by simp [Value.oneCell']) ?_))
  refine bodyPost_ret (v := .tuple #[.agg (#[.pointer (some ⟨D, 0, none⟩), .int .i64 (fr : Int), .int .i64 (to : Int)]), .int .i64 0]) (results_cell_tmp rfl _ _ w.heap.size rfl (.int .i64 0) rfl K2.out Try.underlying93 rfl (by rw [size_ar]; rfl)) rfl ⟨rfl, KB.out⟩
end Go.Proofs.Ytbobdbdknapdcaa
namespace Go.Proofs.Ytbobdbdknapdcaa
open Go.RowKit
set_option linter.unusedVariables false

theorem OwnB.same {w w' : World} {base : Nat} {e : TypeId} {v : Value} {l : List Int} (h : OwnB w base e v l) (hs : ∀ i, base ≤ i → i < w.heap.size → w'.heap[i]? = w.heap[i]?) : OwnB w' base e v l := by
  obtain ⟨h1, h2⟩ := h
  refine ⟨h1, ?_⟩
  rcases h2 with h2 | ⟨g, cap, cur, hv, hg, hh, r⟩
  · exact .inl h2
  · exact .inr ⟨g, cap, cur, hv, hg, (hs g hg (Array.getElem?_eq_some_iff.1 hh).1).trans hh, r⟩
theorem Bld.same {w w' : World} {base b : Nat} {l : List Nat} (h : Bld w base b l) (hs : ∀ i, base ≤ i → i < w.heap.size → w'.heap[i]? = w.heap[i]?) : Bld w' base b l := by
  obtain ⟨h1, p, v, h2, h3, h4, h5⟩ := h
  exact ⟨h1, p, v, h2, (hs b h1 h3.lt).trans h3, h4.same hs, h5⟩
theorem area_snocD (d : DiskM) (a n : Nat) : areaD d a (n + 1) = areaD d a n ++ readD d (a + n) := by
  rw [area_split]
  congr 1
  unfold areaD
  simp [List.range_succ]
theorem areaD_bys {d : DiskM} (hb : (∀ s ∈ d.sec, Bys s) ∧ ∀ p ∈ d.pen, Bys p.2) (a n : Nat) : Bys (areaD d a n) := by
  induction n with
  | zero => exact Bys.of fun x hx => by cases hx
  | succ n ih => rw [area_snocD]; exact ih.app (read_bys hb _)
set_option maxRecDepth 100000 in
theorem j_joined {w : World} {base D S M k : Nat} {E : DataW Unit} {V : Nat → Value} {q : Option (Nat × Int)} {d : DiskM} (h : DkW w base D S M k E V q d) (hb : DkB d) (hon : offD d = false) (fr to : Nat) (hle : fr ≤ to) (hto : to ≤ d.sec.length) (A : ByteArray) (hA : tx (areaD d fr (to - fr)) = A) :
    Calls Try.prog 62 #[.int .i64 (fr : Int), .int .i64 (to : Int), .func (.func 63) #[ptD D] #[]] w fun e w' => e = .returned (.tuple #[.string A, .int .i64 0]) ∧
      DkW w' base D S M k E V q d ∧ Turn base w w' (foot D S M V q) (foot D S M V q) := by
  have hsec := hb.sec
  have hw : base ≤ w.heap.size := by have := h.blk.lt; have := h.hD; omega
  have hfl : ∀ i, foot D S M V q i → i < w.heap.size := fun i hi => (h.lt i hi).2
  obtain ⟨w1, hw1⟩ : ∃ w1, w.alloc (.cells #[.pointer none, .slice none 0 0] 139) = w1 := ⟨_, rfl⟩
  have hb1 : Below w.heap.size w w1 := by rw [← hw1]; exact (Below.refl w.heap.size w).alloc (Nat.le_refl _) _
  have hB1 : Bld w1 w.heap.size w.heap.size [] := by rw [← hw1]; exact Bld.new w _ (Nat.le_refl _)
  obtain ⟨h1, t1⟩ := h.turn hb1
  have hz1 : w.heap.size ≤ w1.heap.size := hb1.size
  obtain ⟨F, hF⟩ : ∃ F, foot D S M V q = F := ⟨_, rfl⟩
  rw [hF] at t1 hfl ⊢
  have HR := Lib.hid (fun (wx : World) (hx : DkW wx base D S M k E V q d) (i : Nat) (hi : i < d.sec.length) => d_Read hx hb (i : Int) (wf_small i (by omega)) (tx (readD d i)) 0 (by rw [rd_on hi hon, sl_tx (read_bys hb.bys i)]))
  rw [hF] at HR
  have HKE := Lib.hid (fun (wa wb : World) (hx : DkW wa base D S M k E V q d) (hs : ∀ i, F i → wb.heap[i]? = wa.heap[i]?) => hx.keep (by rw [hF]; exact hs))
  have HL := Lib.hid hfl
  have HW := Lib.hid hw
  have HA := Lib.hid hA
  have HLE := Lib.hid hle
  have HTO := Lib.hid hto
  have HAL : Hid (∀ n, fr + n ≤ d.sec.length → (areaD d fr n).length = 32 * n) := Lib.hid (fun n hn => areaD_len hb.ok hn)
  have HBY : Hid (∀ n, Bys (areaD d fr n)) := Lib.hid (fun n => areaD_bys hb.bys fr n)
  have HSE := Lib.hid hsec
  have HRL : Hid (∀ i, Bys (readD d i)) := Lib.hid (fun i => read_bys hb.bys i)
  have H1 := Lib.hid h1
  have T1 := Lib.hid t1
  have B1 := Lib.hid hB1
  have i2 : (to : Int) ≤ 4096 := by omega
  unfold ptD at HR ⊢
  clear h hb hon hA hle hto hsec hw hfl hb1 hB1 h1 t1 hF
  go_enter Try.func62, Try.ntmps62
  go_wp2_with fail
  go_loopw [9, 10, 11] (fun v _ _ wr => ∃ i : Nat, v = .int .i64 (i : Int) ∧ fr ≤ i ∧ i ≤ to ∧ DkW wr base D S M k E V q d ∧ Turn base w wr F F ∧ Bld wr w.heap.size w.heap.size (areaD d fr (i - fr))) (fun v _ _ _ => to - (intOf v).toNat)
  case atStart => exact ⟨fr, rfl, Nat.le_refl _, HLE.out, H1.out, T1.out, by rw [Nat.sub_self]; exact B1.out⟩
  case round =>
    obtain ⟨i, rfl, h1, h2, hx, ht, hB⟩ := hrel
    have HX := Lib.hid hx
    have HT := Lib.hid ht
    have HB := Lib.hid hB
    have HS1 := Lib.hid h1
    clear hx ht hB
    by_cases hi : i < to
    · have g1 : (i : Int) < (to : Int) := by omega
      have HI := Lib.hid hi
      clear hi h1 h2
      go_wp2_with fail
      (with_reducible refine (HR.out wr HX.out i (by have := HTO.out; have := HI.out; omega)).mono ?_)
      rintro e w2 ⟨rfl, h2, t2⟩
      have H2 := Lib.hid h2
      have T2 := Lib.hid (HT.out.trans t2)
      have hz2 : wr.heap.size ≤ w2.heap.size := t2.b.size
      have hz0 : w.heap.size ≤ wr.heap.size := HT.out.b.size
      have hB2 := HB.out.same (w' := w2) fun j hj hjl => t2.out j hjl fun hf => by have := HL.out j hf; omega
      have hrz := tx_size (readD d i)
      have hsn : areaD d fr (i + 1 - fr) = areaD d fr (i - fr) ++ sl (tx (readD d i)) := by
        rw [sl_tx (HRL.out i)]
        have h1 := HS1.out
        rw [show i + 1 - fr = (i - fr) + 1 by omega, area_snocD, show fr + (i - fr) = i by omega]
      have hal1 := HAL.out (i - fr) (by have := HTO.out; have := HI.out; have := HS1.out; omega)
      have hal2 := HAL.out (i + 1 - fr) (by have := HTO.out; have := HI.out; have := HS1.out; omega)
      have hsum : (areaD d fr (i - fr)).length + (tx (readD d i)).size ≤ 1000000000 := by
        have e := congrArg List.length hsn
        rw [List.length_append, sl_len] at e
        have := HTO.out
        have := HSE.out
        have := HI.out
        omega
      have HWS := Lib.hid (b_WriteString w2 w.heap.size w.heap.size (areaD d fr (i - fr)) (tx (readD d i)) hB2 hsum (by omega))
      rw [← hsn] at HWS
      clear hB2 hsum hsn hal1 hal2 hrz hz0 hz2 h2 t2
      generalize tx (readD d i) = X at *
      go_wp2_with fail
      (with_reducible refine HWS.out.mono ?_)
      rintro e w3 ⟨rfl, hB3, hb3⟩
      have H3 := Lib.hid (HKE.out w2 w3 H2.out fun j hj => hb3.block j (HL.out j hj))
      have T3 := Lib.hid (T2.out.then hb3 HW.out (fun j hj => .inl hj))
      have B3 := Lib.hid hB3
      clear hB3 hb3
      go_wp2
      go_roundw
      case rel => exact ⟨i + 1, by go_num, by have := HS1.out; omega, HI.out, H3.out, T3.out, B3.out⟩
      case measure => (have := HI.out; simp [intOf]; omega)
    · have g1 : ¬ (i : Int) < (to : Int) := by omega
      obtain rfl : to = i := by omega
      have hl := HAL.out (to - fr) (by have := HTO.out; omega)
      have HST := Lib.hid (b_String wr w.heap.size w.heap.size (areaD d fr (to - fr)) HB.out (HBY.out _) (by have := HTO.out; have := HSE.out; omega))
      rw [HA.out] at HST
      clear hl hi h1 h2
      go_wp2_with fail
      (with_reducible refine HST.out.mono ?_)
      rintro e w3 ⟨rfl, hb3⟩
      have H3 := Lib.hid (HKE.out wr w3 HX.out fun j hj => hb3.block j (HL.out j hj))
      have T3 := Lib.hid (HT.out.then hb3 HW.out (fun j hj => .inl hj))
      clear hb3
      go_wp2
      go_ret2
      exact ⟨rfl, H3.out, T3.out⟩
theorem j_text {w : World} {base D S M k : Nat} {E : DataW Unit} {V : Nat → Value} {q : Option (Nat × Int)} {d : DiskM} (h : DkW w base D S M k E V q d) (hb : DkB d) (hon : offD d = false) (fr to : Nat) (hle : fr ≤ to) (hto : to ≤ d.sec.length) (A : ByteArray) (hA : tx (areaD d fr (to - fr)) = A) :
    Calls Try.prog 47 #[.agg (arV D fr to).toArray] w fun e w' => e = .returned (.tuple #[.string A, .int .i64 0]) ∧
      DkW w' base D S M k E V q d ∧ Turn base w w' (foot D S M V q) (foot D S M V q) := by
  obtain ⟨w1, hw1⟩ : ∃ w1, w.alloc (.cells (arV D fr to).toArray 93) = w1 := ⟨_, rfl⟩
  have hb1 : Below w.heap.size w w1 := by rw [← hw1]; exact (Below.refl w.heap.size w).alloc (Nat.le_refl _) _
  have k1 : Blk w1 w.heap.size 93 (arV D fr to) := by rw [← hw1]; exact Blk.new w _ _
  obtain ⟨h1, t1⟩ := h.turn hb1
  have c0 := k1.cell 0
  have c1 := k1.cell 1
  have c2 := k1.cell 2
  unfold arV ptD at c0 c1 c2
  simp only [List.getElem?_cons_zero, List.getElem?_cons_succ] at c0 c1 c2
  have HJ := Lib.hid (j_joined h1 hb hon fr to hle hto A hA)
  have T1 := Lib.hid t1
  unfold ptD at HJ
  unfold arV ptD at hw1 ⊢
  clear h hb hon hle hto hA hb1 k1 h1 t1
  go_enter Try.func47, Try.ntmps47
  go_wp2_with fail
  (with_reducible refine HJ.out.mono ?_)
  rintro e w2 ⟨rfl, h2, t2⟩
  have H2 := Lib.hid h2
  have T2 := Lib.hid (T1.out.trans t2)
  clear h2 t2
  go_wp2
  go_ret2
  exact ⟨rfl, H2.out, T2.out⟩
end Go.Proofs.Ytbobdbdknapdcaa
namespace Go.Proofs.Ytbobdbdknapdcaa
open Go.RowKit Go.Shelf
set_option linter.unusedVariables false

attribute [local go_sem] Oper.semAt_some

theorem j_frames (s : ByteArray) (w : World) :
    Calls Try.prog 48 #[.string s] w fun e w' => e = .returned (.func (.func 64) #[] #[.pointer (some ⟨w.heap.size, 0, none⟩)]) ∧ w' = w.alloc (.cells #[.string s] 9) := by
  go_enter Try.func48, Try.ntmps48
  go_wp2
  go_ret
  exact ⟨rfl, rfl⟩
theorem j_fstops (n G : Nat) (s : ByteArray) (m : Nat) (hm : s.size = 32 * m) (hs : m ≤ 1000) (hn : 2 ≤ n) (w : World) (hG : Blk w G 9 [.string s]) :
    SeqStopsK Fence.wide n Try.prog 64 #[.pointer (some ⟨G, 0, none⟩)] (fun x : {x : List Nat × Nat // x.2 ≤ m} => #[Value.string (tx x.val.1), Value.int .i64 (x.val.2 : Int)]) (fun A B => ∀ o, A.heap[G]? = some o → B.heap[G]? = some o) (fun ys => ys.map (·.val) = frJ (sl s) 0) (fun _ => True) m w := fun l J Jx W hW hJ _ hY h0 => by
  refine (j_fr_in n l G s m hm hs (fun pre W => ∃ ys : List ({x : List Nat × Nat // x.2 ≤ m}), ys.map (·.val) = pre ∧ J ys W) (fun pre W => ∃ ys : List ({x : List Nat × Nat // x.2 ≤ m}), ys.map (·.val) = pre ∧ Jx ys W) hn W ?_ ?_ (hG.below hW hG.lt) ⟨[], rfl, h0⟩).mono ?_
  · rintro pre X Y row ⟨ys, e, h⟩ hg hr
    exact ⟨ys, e, hJ ys X Y row h hg hr⟩
  · rintro pre x W1 hx ⟨ys, rfl, h⟩ hlt
    refine (hY ys ⟨x, hx⟩ W1 h (by simpa using hlt)).mono ?_
    rintro e W' (⟨h1, h2, h3⟩ | ⟨h1, h2⟩)
    · exact .inl ⟨h1, ⟨_, by simp, h2⟩, h3⟩
    · exact .inr ⟨h1, ⟨_, by simp, h2⟩⟩
  · rintro e W' ⟨h1, (⟨_, h2, ys, h3, h4⟩ | ⟨_, h2, ys, h3, h4⟩)⟩
    · exact ⟨h1, .inl ⟨ys, h3.trans h2, h4⟩⟩
    · exact ⟨h1, .inr ⟨ys, trivial, h4⟩⟩
theorem size_ju : (Try.prog.info? 95).map (·.size) = some 4 := by kernel_rfl
set_option maxRecDepth 100000 in
set_option maxHeartbeats 2000000 in
theorem j_Open {w : World} {base D S M k : Nat} {E : DataW Unit} {V : Nat → Value} {q : Option (Nat × Int)} {d : DiskM} (h : DkW w base D S M k E V q d) (hb : DkB d) (hon : offD d = false) (fr to : Nat) (hlt : fr < to) (hto : to ≤ d.sec.length) (hbig : to ≤ 1000) (l : List (List Nat)) (u : Nat) (hs : scanK (areaD d fr (to - fr)) = (l, u)) :
    Calls Try.prog 28 #[ptD D, .int .i64 (fr : Int), .int .i64 (to : Int)] w fun x w' => ∃ J p c, x = .returned (.tuple #[ptD J, .slice p l.length c, .int .i64 0]) ∧ w.heap.size ≤ J ∧
      DkW w' base D S M k E V q d ∧ Turn base w w' (foot D S M V q) (foot D S M V q) ∧ Blk w' J 95 (juV D ⟨fr, to, fr + u⟩) ∧ OwnR w' w.heap.size 9 1 (.slice p l.length c) (rowsS l) := by
  have hw : base ≤ w.heap.size := by have := h.blk.lt; have := h.hD; omega
  have hfl : ∀ i, foot D S M V q i → i < w.heap.size := fun i hi => (h.lt i hi).2
  obtain ⟨F, hF⟩ : ∃ F, foot D S M V q = F := ⟨_, rfl⟩
  obtain ⟨A, hA⟩ : ∃ A, tx (areaD d fr (to - fr)) = A := ⟨_, rfl⟩
  have hAs : sl A = areaD d fr (to - fr) := by rw [← hA, sl_tx (areaD_bys hb.bys _ _)]
  have hAz : A.size = 32 * (to - fr) := by rw [← sl_len, hAs, areaD_len hb.ok (by omega)]
  have hscan := frJ_scan (sl A)
  rw [hAs, hs, ← hAs] at hscan
  -- the parameter's block
  obtain ⟨Z, hZ⟩ : ∃ Z, w.heap.size = Z := ⟨_, rfl⟩
  obtain ⟨w1, hw1⟩ : ∃ w1, w.alloc (.cells #[.int .i64 (fr : Int)] 3) = w1 := ⟨_, rfl⟩
  have hb1 : Below Z w w1 := by rw [← hw1, ← hZ]; exact (Below.refl w.heap.size w).alloc (Nat.le_refl _) _
  have kZ : Blk w1 Z 3 [.int .i64 (fr : Int)] := by rw [← hw1, ← hZ]; exact Blk.new w _ _
  have cZ := kZ.cell 0
  simp only [List.getElem?_cons_zero] at cZ
  have h1 := h.below (hZ ▸ hb1)
  have HAR := Lib.hid (j_areaOf h1 hb.sec fr to hlt hto)
  have HTX := Lib.hid (fun (wx : World) (hx : DkW wx base D S M k E V q d) => j_text hx hb hon fr to (Nat.le_of_lt hlt) hto A hA)
  have HBE := Lib.hid (fun (wx wy : World) (hx : DkW wx base D S M k E V q d) (hb : Below wx.heap.size wx wy) => hx.turn hb)
  rw [hF] at HTX HBE ⊢
  have H1 := Lib.hid h1
  have T1 := Lib.hid (h.turn (hZ ▸ hb1)).2
  rw [hF] at T1
  rw [hF] at hfl
  have HFL := Lib.hid hfl
  have HW := Lib.hid hw
  have HZ := Lib.hid hZ
  have KZ := Lib.hid kZ
  have HSC := Lib.hid hscan
  have HAZ := Lib.hid hAz
  have HLT := Lib.hid hlt
  have HBIG := Lib.hid hbig
  unfold ptD at HAR ⊢
  clear h hb hon hs hA hAs hAz hscan hfl hw hto hF hb1 kZ h1 hlt hbig
  refine (callsIn_wide (n := 9)).1 (callsIn_of_wp_marks Try.func28 rfl trivial ?_ rfl)
  simp only [Try.ntmps28, List.size_toArray, List.length_cons, List.length_nil, Nat.reduceAdd, Nat.reduceSub, Array.replicate_succ, Array.replicate_zero, List.push_toArray, List.append_toArray, List.nil_append, List.cons_append]
  refine wpIn_wide.2 ?_
  rw [hZ]
  go_wp2_with fail
  (with_reducible refine HAR.out.mono ?_)
  rintro e w2 ⟨rfl, hb2⟩
  clear HAR
  obtain ⟨h2, t2⟩ := HBE.out w1 w2 H1.out hb2
  have kZ2 := KZ.out.below hb2 KZ.out.lt
  obtain ⟨w3, hw3⟩ : ∃ w3, (w2.alloc (.cells #[.pointer none, .int .i64 0, .int .i64 0] 93)).setRow w2.heap.size (arV D fr to).toArray = w3 := ⟨_, rfl⟩
  have k1 : Blk (w2.alloc (.cells #[.pointer none, .int .i64 0, .int .i64 0] 93)) w2.heap.size 93 [.pointer none, .int .i64 0, .int .i64 0] := Blk.new w2 _ _
  have k2 : Blk w3 w2.heap.size 93 (arV D fr to) := by rw [← hw3]; exact k1.row (arV D fr to) rfl
  have kb : Below w2.heap.size w2 w3 := by rw [← hw3]; exact below_setRow ((Below.refl w2.heap.size w2).alloc (Nat.le_refl _) _) (Nat.le_refl _) _
  obtain ⟨h3, t3⟩ := HBE.out w2 w3 h2 kb
  have kZ3 := kZ2.below kb kZ2.lt
  have T3 := Lib.hid (T1.out.trans (t2.trans t3))
  have K1 := Lib.hid k1
  have K2 := Lib.hid k2
  have KZ3 := Lib.hid kZ3
  have HT := Lib.hid (HTX.out w3 h3)
  have hA2 : Z ≤ w2.heap.size := by have := hb2.size; have := KZ.out.lt; omega
  have HA2 := Lib.hid hA2
  obtain ⟨AB, hAB⟩ : ∃ AB, w2.heap.size = AB := ⟨_, rfl⟩
  rw [hAB] at K1 K2 HA2
  rw [hAB] at hw3
  clear hb2 h2 t2 kZ2 kb h3 t3 kZ3 k1 k2 hA2 cZ HTX KZ H1 T1
  go_wp2_with (first | (refine wpList_store_blk rfl 93 _ _ rfl AB (arV D fr to) (by first | rfl | rw [hAB]) rfl K1.out (by rw [size_ar]; rfl) rfl (by simp [Value.oneCell', arV, ptD]) ?_; rw [hw3]) | (refine wpList_load_blk rfl 93 _ rfl AB rfl K2.out Try.underlying93 rfl (by rw [size_ar]; rfl) ?_))
  (with_reducible refine HT.out.mono ?_)
  rintro e w4 ⟨rfl, h4, t4⟩
  have nZ : ¬ F Z := fun hf => by have := HFL.out Z hf; have := HZ.out; omega
  have nA : ¬ F AB := fun hf => by have := HFL.out AB hf; have := HZ.out; have := HA2.out; omega
  have kZ4 := t4.blk KZ3.out nZ
  have kA4 := t4.blk K2.out nA
  have T4 := Lib.hid (T3.out.trans t4)
  have H4 := Lib.hid h4
  have cZ := kZ4.cell 0
  simp only [List.getElem?_cons_zero] at cZ
  have KA4 := Lib.hid kA4
  have KZ4 := Lib.hid kZ4
  clear h4 t4 nZ nA kZ4 kA4 HT K1 K2 KZ3 T3 hw3 hAB
  obtain ⟨Y, hY⟩ : ∃ Y, w4.heap.size = Y := ⟨_, rfl⟩
  have kb : ∀ i2, (Instr.build 95 #[(0, .agg (arV D fr to).toArray), (1, .int .i64 i2)]).run Try.prog w4 = .ok (.agg #[ptD D, .int .i64 (fr : Int), .int .i64 (to : Int), .int .i64 i2]) w4 := fun i2 => by
    unfold arV ptD
    kernel_rfl
  go_wp2_with (first | (refine wpList_load_blk rfl 93 _ rfl AB rfl KA4.out Try.underlying93 rfl (by rw [size_ar]; rfl) ?_) | (refine wpList_build_at rfl 95 _ rfl _ (by simp only [List.map_toArray, List.map_cons, List.map_nil]; exact kb _) ?_) | (go_at_call 48; (with_reducible refine (j_frames _ _).mono ?_); rintro e w9 ⟨rfl, rfl⟩))
  have K0 := ((((Blk.new' w4 95 (c := #[ptD D, .int .i64 (fr : Int), .int .i64 (to : Int), .int .i64 (fr : Int)]) (juV D ⟨fr, to, fr⟩) rfl).alloc (.cells #[.pointer (some ⟨Y, 0, none⟩)] 49)).alloc (.cells #[.slice none 0 0] 58)).alloc (.cells #[.string A] 9))
  have K1 := ((Blk.newAt (w4.alloc (.cells #[ptD D, .int .i64 (fr : Int), .int .i64 (to : Int), .int .i64 (fr : Int)] 95)) (Y + 1) (by simp [hY]) 49 (c := #[.pointer (some ⟨Y, 0, none⟩)]) [.pointer (some ⟨Y, 0, none⟩)] rfl).alloc (.cells #[.slice none 0 0] 58)).alloc (.cells #[.string A] 9)
  have K2 := (Blk.newAt ((w4.alloc (.cells #[ptD D, .int .i64 (fr : Int), .int .i64 (to : Int), .int .i64 (fr : Int)] 95)).alloc (.cells #[.pointer (some ⟨Y, 0, none⟩)] 49)) (Y + 1 + 1) (by simp [hY]) 58 (c := #[.slice none 0 0]) [.slice none 0 0] rfl).alloc (.cells #[.string A] 9)
  have K3 := Blk.newAt (((w4.alloc (.cells #[ptD D, .int .i64 (fr : Int), .int .i64 (to : Int), .int .i64 (fr : Int)] 95)).alloc (.cells #[.pointer (some ⟨Y, 0, none⟩)] 49)).alloc (.cells #[.slice none 0 0] 58)) (Y + 1 + 1 + 1) (by simp [hY]) 9 (c := #[.string A]) [.string A] rfl
  have Kb := ((((Below.refl w4.heap.size w4).alloc (Nat.le_refl _) (.cells #[ptD D, .int .i64 (fr : Int), .int .i64 (to : Int), .int .i64 (fr : Int)] 95)).alloc (by simp) (.cells #[.pointer (some ⟨Y, 0, none⟩)] 49)).alloc (by simp; omega) (.cells #[.slice none 0 0] 58)).alloc (by simp; omega) (.cells #[.string A] 9)
  have Kz := (((KZ4.out.alloc (.cells #[ptD D, .int .i64 (fr : Int), .int .i64 (to : Int), .int .i64 (fr : Int)] 95)).alloc (.cells #[.pointer (some ⟨Y, 0, none⟩)] 49)).alloc (.cells #[.slice none 0 0] 58)).alloc (.cells #[.string A] 9)
  have Kn : ((((w4.alloc (.cells #[ptD D, .int .i64 (fr : Int), .int .i64 (to : Int), .int .i64 (fr : Int)] 95)).alloc (.cells #[.pointer (some ⟨Y, 0, none⟩)] 49)).alloc (.cells #[.slice none 0 0] 58)).alloc (.cells #[.string A] 9)).heap.size = Y + 4 := by simp [hY]
  have KzL := KZ4.out.lt
  clear cZ kb
  generalize World.alloc (World.alloc (World.alloc (World.alloc w4 _) _) _) _ = w5 at *
  rw [hY] at K0 KzL
  have HY := Lib.hid hY
  rw [hY] at Kb
  clear hY
  obtain ⟨m, hm⟩ : ∃ m, to - fr = m := ⟨_, rfl⟩
  have hAm : A.size = 32 * m := by rw [HAZ.out, hm]
  have hm1 : m ≤ 1000 := by have := HBIG.out; omega
  have hKb : ∀ (W : World) (l : Nat) (o o' : Obj), w5.heap.size ≤ l → W.heap[l]? = some o → o.isCells = false → o.isWalk = false → ∀ o2, W.heap[Y + 1 + 1 + 1]? = some o2 → (W.putObj l o').heap[Y + 1 + 1 + 1]? = some o2 := fun W l o o' hl _ _ _ o2 ho2 =>
    (World.putObj_heap_other (by omega)).trans ho2
  have hYw : w4.heap.size = Y := HY.out
  refine (wpIn_wide (n := 9)).1 ?_
  refine wpIn_rangeFunc_ownF (F := Fence.wide) (n := 9) rfl (by omega) (gf := 64) (lb := #[.pointer (some ⟨Y + 1 + 1 + 1, 0, none⟩)]) rfl trivial (enters_of Try.func64 (by kernel_rfl) rfl)
    (j_fstops 8 (Y + 1 + 1 + 1) A m hAm hm1 (by omega) w5 K3) (fun h k o ho => k o (h o ho)) hKb (Below.refl _ _) (fun _ => rfl)
    (fun pre W => (Blk W Z 3 [.int .i64 (fr : Int)] ∧ Blk W Y 95 (juV D ⟨fr, to, fr + lastJ 0 (pre.map (·.val))⟩) ∧ Blk W (Y + 1) 49 [.pointer (some ⟨Y, 0, none⟩)] ∧ Blk W (Y + 1 + 1 + 1) 9 [.string A] ∧ ∃ v, Blk W (Y + 1 + 1) 58 [v] ∧ OwnR W (Y + 4) 9 1 v (rowsS (pre.map (·.val.1)))) ∧ Below Y w4 W)
    (fun _ _ _ => False)
    (OwnFrom.and (Own.from (fun s A B row hs hg hr => ⟨hs.1.kept hg hr, hs.2.1.kept hg hr, hs.2.2.1.kept hg hr, hs.2.2.2.1.kept hg hr, hs.2.2.2.2.elim fun v h => ⟨v, h.1.kept hg hr, h.2.kept hg hr⟩⟩) _) (ownFrom_below (by omega) (by omega)))
    (fun _ _ _ _ _ hs _ _ => hs)
    ⟨⟨Kz, K0, K1, K3, _, K2, OwnR.nil _ _ _ _⟩, Kb⟩
    (fun x => { tmps := #[.pointer (some ⟨D, 0, none⟩), .int .i64 (fr : Int), .int .i64 (to : Int), undef, .pointer (some ⟨Z, 0, none⟩), undef, .pointer none, .slice none 0 0, .int .i64 0, .pointer (some ⟨AB, 0, none⟩), .int .i64 0, .string A, .pointer (some ⟨Y + 1, 0, none⟩), .pointer (some ⟨Y + 1 + 1, 0, none⟩), .string (tx x.val.1), .int .i64 (x.val.2 : Int), .tuple #[.agg (arV D fr to).toArray, .int .i64 0], .pointer (some ⟨D, 0, none⟩), .int .i64 (fr : Int), .int .i64 (to : Int), .tuple #[.agg (arV D fr to).toArray, .int .i64 0], .agg (arV D fr to).toArray, .int .i64 0, .int .i64 0, .bool false, undef, .tuple #[.string A, .int .i64 0], .agg (arV D fr to).toArray, .tuple #[.string A, .int .i64 0], .string A, .int .i64 0, .int .i64 0, .bool false, undef, .agg (arV D fr to).toArray, .int .i64 (fr : Int), .agg #[ptD D, .int .i64 (fr : Int), .int .i64 (to : Int), .int .i64 (fr : Int)], .pointer (some ⟨Y, 0, none⟩), .string A, .func (.func 64) #[] #[.pointer (some ⟨Y + 1 + 1 + 1, 0, none⟩)], .string (tx x.val.1), .int .i64 (x.val.2 : Int), undef, undef, undef, undef, undef, undef, undef, undef, undef, undef, undef, undef], defers := [] }) ?assign ?body ?done ?stop
  case assign =>
    intro lp x W K hK
    gi_wp2
    exact hK
  case body =>
    rintro lp pre ⟨⟨x, y⟩, hxy⟩ W ⟨⟨h1, h2, h3, h5, v, h6, h4⟩, hb⟩ hlt
    obtain ⟨i0, hi0, hz0, hz1, hz2⟩ := info_parts2 info_str
    obtain ⟨X, hX⟩ : ∃ X, tx x = X := ⟨_, rfl⟩
    have hys : y ≤ m := hxy
    have hll : (rowsS (pre.map (·.val.1))).length = pre.length := by rw [rowsS_len, List.length_map]
    have hla : lastJ 0 ((pre ++ [(⟨(x, y), hxy⟩ : {x : List Nat × Nat // x.2 ≤ m})]).map (·.val)) = y := by
      rw [List.map_append, List.map_singleton, lastJ_snoc]
    have hrs : rowsS ((pre ++ [(⟨(x, y), hxy⟩ : {x : List Nat × Nat // x.2 ≤ m})]).map (·.val.1)) = rowsS (pre.map (·.val.1)) ++ [[.string X]] := by
      rw [List.map_append, rowsS_app, ← hX]
      rfl
    obtain ⟨R, hR⟩ : ∃ R, rowsS (pre.map (·.val.1)) = R := ⟨_, rfl⟩
    rw [hR] at h4 hll hrs
    have hown : (W.alloc (.cells #[.string X] 9)).ownsRow (Y + 4) 9 1 v pre.length R.flatten := by
      have := (h4.alloc (.cells #[.string X] 9)).2
      rw [hll] at this
      exact this
    have hnew : ∀ jj u, [Value.string X][jj]? = some u → (W.alloc (.cells #[.string X] 9)).cell? ((⟨W.heap.size, 0, none⟩ : Addr).add jj) = some u := fun jj u h => by
      rw [Addr.add_mid]
      exact (Blk.new' W 9 [Value.string X] rfl).whole jj u h
    have hone : ∀ u ∈ [Value.string X], u.oneCell' = true := by simp [Value.oneCell']
    have h63 : pre.length + 1 ≤ maxLen := by simp [maxLen]; omega
    have hbyy : (pre.length + 1) * 16 ≤ 140737488355328 := by omega
    have hWz : Y + 4 ≤ W.heap.size := by
      have := h5.lt
      omega
    have hbase : Y + 4 ≤ (W.alloc (.cells #[.string X] 9)).heap.size := by simp; omega
    have hge : ∀ b, v.ownBlock = some b → Y + 4 ≤ b := fun b hb => (h4.lt b hb).1
    have aZ := h1.alloc (.cells #[.string X] 9)
    have aJ := h2.alloc (.cells #[.string X] 9)
    have aV := h3.alloc (.cells #[.string X] 9)
    have aG := h5.alloc (.cells #[.string X] 9)
    have aN := h6.alloc (.cells #[.string X] 9)
    have ab := hb.alloc (show Y ≤ W.heap.size by omega) (.cells #[.string X] 9)
    have hcells : ∀ (j : Nat) (o : Obj), v.ownBlock = some j → (W.alloc (.cells #[.string X] 9)).heap[j]? = some o → o.isCells = true := (h4.alloc _).isCells
    have h4k := h4.1
    have hZY : Z < Y := KzL
    obtain ⟨p, cap, rfl⟩ := h4.isSlice
    have hval : (fr : Int) + (y : Int) = ((fr + y : Nat) : Int) := by omega
    have key : ∀ v5 w5, w5.ownsRow (Y + 4) 9 1 v5 (pre.length + 1) (R.flatten ++ [.string X]) → (W.alloc (.cells #[.string X] 9)).grownBy w5 (Value.slice p R.length cap).ownBlock →
        (w5.cell? ⟨Y + 1 + 1, 0, none⟩ = some (.slice p R.length cap) ∧ w5.frozen? ⟨Y + 1 + 1, 0, none⟩ = false ∧ (w5.setCell ⟨Y + 1 + 1, 0, none⟩ v5).cell? ⟨Y + 1, 0, none⟩ = some (.pointer (some ⟨Y, 0, none⟩)) ∧ (w5.setCell ⟨Y + 1 + 1, 0, none⟩ v5).cell? ⟨Z, 0, none⟩ = some (.int .i64 (fr : Int)) ∧ (∃ n : Nat, (w5.setCell ⟨Y + 1 + 1, 0, none⟩ v5).cell? ⟨Y, 3, none⟩ = some (.int .i64 (n : Int))) ∧ (w5.setCell ⟨Y + 1 + 1, 0, none⟩ v5).frozen? ⟨Y, 3, none⟩ = false) ∧
        KeepsOthers W ((w5.setCell ⟨Y + 1 + 1, 0, none⟩ v5).setCell ⟨Y, 3, none⟩ (.int .i64 ((fr : Int) + (y : Int)))) ∧ (∀ o, W.heap[Y + 1 + 1 + 1]? = some o → ((w5.setCell ⟨Y + 1 + 1, 0, none⟩ v5).setCell ⟨Y, 3, none⟩ (.int .i64 ((fr : Int) + (y : Int)))).heap[Y + 1 + 1 + 1]? = some o) ∧
        ((Blk ((w5.setCell ⟨Y + 1 + 1, 0, none⟩ v5).setCell ⟨Y, 3, none⟩ (.int .i64 ((fr : Int) + (y : Int)))) Z 3 [.int .i64 (fr : Int)] ∧ Blk ((w5.setCell ⟨Y + 1 + 1, 0, none⟩ v5).setCell ⟨Y, 3, none⟩ (.int .i64 ((fr : Int) + (y : Int)))) Y 95 (juV D ⟨fr, to, fr + lastJ 0 ((pre ++ [(⟨(x, y), hxy⟩ : {x : List Nat × Nat // x.2 ≤ m})]).map (·.val))⟩) ∧ Blk ((w5.setCell ⟨Y + 1 + 1, 0, none⟩ v5).setCell ⟨Y, 3, none⟩ (.int .i64 ((fr : Int) + (y : Int)))) (Y + 1) 49 [.pointer (some ⟨Y, 0, none⟩)] ∧ Blk ((w5.setCell ⟨Y + 1 + 1, 0, none⟩ v5).setCell ⟨Y, 3, none⟩ (.int .i64 ((fr : Int) + (y : Int)))) (Y + 1 + 1 + 1) 9 [.string A] ∧
          ∃ v, Blk ((w5.setCell ⟨Y + 1 + 1, 0, none⟩ v5).setCell ⟨Y, 3, none⟩ (.int .i64 ((fr : Int) + (y : Int)))) (Y + 1 + 1) 58 [v] ∧ OwnR ((w5.setCell ⟨Y + 1 + 1, 0, none⟩ v5).setCell ⟨Y, 3, none⟩ (.int .i64 ((fr : Int) + (y : Int)))) (Y + 4) 9 1 v (rowsS ((pre ++ [(⟨(x, y), hxy⟩ : {x : List Nat × Nat // x.2 ≤ m})]).map (·.val.1)))) ∧ Below Y w4 ((w5.setCell ⟨Y + 1 + 1, 0, none⟩ v5).setCell ⟨Y, 3, none⟩ (.int .i64 ((fr : Int) + (y : Int))))) := by
      intro v5 w5 hown5 hg5
      have bZ := aZ.grownO hg5 (fun i hi => by have := hge i hi; omega)
      have bJ := aJ.grownO hg5 (fun i hi => by have := hge i hi; omega)
      have bV := aV.grownO hg5 (fun i hi => by have := hge i hi; omega)
      have bG := aG.grownO hg5 (fun i hi => by have := hge i hi; omega)
      have bN := aN.grownO hg5 (fun i hi => by have := hge i hi; omega)
      have bb := ab.grown hg5 (by simp; omega) (fun i hi => by have := hge i hi; omega)
      have o5 : OwnR w5 (Y + 4) 9 1 v5 (rowsS ((pre ++ [(⟨(x, y), hxy⟩ : {x : List Nat × Nat // x.2 ≤ m})]).map (·.val.1))) := by
        rw [hrs]
        refine ⟨fun r hr => ?_, ?_⟩
        · rcases List.mem_append.1 hr with hr | hr
          · exact h4k r hr
          · rw [List.mem_singleton.1 hr]; rfl
        · rw [List.length_append, hll, List.flatten_append]
          exact hown5
      have cZ := bZ.other (a := ⟨Y + 1 + 1, 0, none⟩) (show Y + 1 + 1 ≠ Z by omega) v5
      have cJ := bJ.other (a := ⟨Y + 1 + 1, 0, none⟩) (show Y + 1 + 1 ≠ Y by omega) v5
      have cV := bV.other (a := ⟨Y + 1 + 1, 0, none⟩) (show Y + 1 + 1 ≠ Y + 1 by omega) v5
      have cG := bG.other (a := ⟨Y + 1 + 1, 0, none⟩) (show Y + 1 + 1 ≠ Y + 1 + 1 + 1 by omega) v5
      have cN := bN.set 0 v5
      have co := o5.cellOther bN (by decide) 0 v5
      have cb := bb.setCell (p := ⟨Y + 1 + 1, 0, none⟩) (show Y ≤ Y + 1 + 1 by omega) v5
      refine ⟨⟨bN.cell 0, bN.free 0, cV.cell 0, cZ.cell 0, ⟨_, cJ.cell 3⟩, cJ.free 3⟩, (KeepsOthers.alloc W _).trans ((KeepsOthers.of_grownBy hg5 hcells).trans ((KeepsOthers.setCell w5 _ _).trans (KeepsOthers.setCell _ _ _))), fun o ho => ?_, ⟨cZ.other (a := ⟨Y, 3, none⟩) (show Y ≠ Z by omega) _, ?_, cV.other (a := ⟨Y, 3, none⟩) (show Y ≠ Y + 1 by omega) _, cG.other (a := ⟨Y, 3, none⟩) (show Y ≠ Y + 1 + 1 + 1 by omega) _, v5, cN.other (a := ⟨Y, 3, none⟩) (show Y ≠ Y + 1 + 1 by omega) _, co.cellOther cJ (by decide) 3 _⟩, cb.setCell (p := ⟨Y, 3, none⟩) (show Y ≤ Y by omega) _⟩
      · have e := h5
        unfold Blk at e
        rw [e] at ho
        cases ho
        exact cG.other (a := ⟨Y, 3, none⟩) (show Y ≠ Y + 1 + 1 + 1 by omega) _
      · rw [hla, hval]
        exact cJ.set 3 _
    have c1 := h6.cell 0
    simp only [List.getElem?_cons_zero] at c1
    have g1 : (fr : Int) ≤ 1000 := by have := HBIG.out; have := HLT.out; omega
    have g2 : (y : Int) ≤ 1000 := by omega
    have HKey := Lib.hid key
    have HRow := Lib.hid hown
    have HNew := Lib.hid hnew
    have HOne := Lib.hid hone
    have H63 := Lib.hid h63
    have HBY := Lib.hid hbyy
    have HBS := Lib.hid hbase
    clear key hown hnew hone h63 hbyy hbase aZ aJ aV aG aN ab hcells h4k h1 h2 h3 h4 h5 h6 hb hge hWz hrs hla hval hll K0 K1 K2 K3 Kb Kz hAm hm hm1 hys hYw Kn hKb
    dsimp only
    rw [hX]
    clear hX
    gi_wp2_with (gi_at_builtin; go_loud (refine wpListIn_append_own_at _ rfl _ _ 58 rfl (Y + 4) 9 i0 (.string ⟨#[]⟩) 1 16 Try.underlying58 hi0 hz0 hz1 hz2 rfl (by decide) _ pre.length _ rfl HRow.out ⟨W.heap.size, 0, none⟩ 1 1 [.string X] rfl rfl HNew.out HOne.out H63.out HBY.out HBS.out ?_; intro v5 w5 hown5 hg5 hnil5 hat5; obtain ⟨p5, cap5, rfl⟩ := own_slice hown5; obtain ⟨⟨q1, q2, q3, q4, ⟨n0, q5⟩, q6⟩, hfin⟩ := HKey.out _ w5 hown5 hg5; have HFin := Lib.hid hfin; clear hown5 hg5 hnil5 hat5 hfin))
    exact HFin.out
  case done =>
    rintro Dd ys W hD hys ⟨⟨h1, h2, h3, h5, v, h6, h4⟩, hb⟩ hK
    obtain ⟨e1, e2⟩ := HSC.out
    rw [← hys] at e1 e2
    rw [List.map_map] at e1
    rw [e2] at h2
    have h4' : OwnR W (Y + 4) 9 1 v (rowsS l) := by rw [← e1]; exact h4
    obtain ⟨p, cap, rfl⟩ := h4'.isSlice
    rw [rowsS_len] at h4' h6
    have c1 := h6.cell 0
    have c2 := h3.cell 0
    simp only [List.getElem?_cons_zero] at c1 c2
    have H2' := Lib.hid h2
    have H4' := Lib.hid h4'
    have HB' := Lib.hid hb
    have HK' := Lib.hid hK
    clear hys e1 e2 K0 K1 K2 K3 Kb Kz h1 h2 h3 h4 h5 h6 hAm hm hm1 hKb hb h4' hK
    go_wp2
    go_quiet (fail)
    go_wp2
    have hK := HK'.out
    refine ⟨by simp, .inl ⟨_, _, rfl, run_takeDeferred hK, ?_⟩⟩
    have o1 : OwnR (W.drewN nq) (Y + 4) 9 1 (.slice p l.length cap) (rowsS l) := H4'.out
    have o2 := o1.kept (grownBy_putObj' (W.drewN nq) Dd (.deferred none)) (fun r e => by cases e; exact ⟨_, hK, rfl⟩)
    have j1 : Blk (W.drewN nq) Y 95 (juV D ⟨fr, to, fr + u⟩) := H2'.out
    have j2 := j1.kept (grownBy_putObj' (W.drewN nq) Dd (.deferred none)) (fun r e => by cases e; exact ⟨_, hK, rfl⟩)
    have b1 : Below Y w4 (W.drewN nq) := below_drewN HB'.out nq
    have b2 := b1.trans (belowK_b (w := w4) (Nat.le_of_eq HY.out.symm) _ Dd _ (.deferred none) (by have := HY.out; omega) hK rfl rfl)
    have hYw := HY.out
    have hZw := HZ.out
    refine ⟨_, results_tmp3 rfl _ _ _, Y, p, cap, rfl, by omega, (HBE.out w4 _ H4.out (by rw [hYw]; exact b2)).1, T4.out.then (b2.mono (by omega)) HW.out (fun i hi => .inl hi), j2, o2.lower (by omega)⟩
  case stop =>
    rintro Dd c pre W _ _ h _
    exact h.elim
end Go.Proofs.Ytbobdbdknapdcaa
