/- Walk of the program's disk: New. -/
import Derived.Test.YtdpdgmfmjgjmiaaZRea
import Derived.Test.YtdpdgmfmjgjmiaaG1
import Derived.Laws.MakeOwn
namespace Go.Proofs.Ytdpdgmfmjgjmiaa
open Go.RowKit
set_option linter.unusedVariables false

def zerS (n : Nat) : List Value := (rowsB (List.replicate n (zerN 32))).flatten
theorem zerS_is (n : Nat) : zerS n = List.replicate (n * 32) (.int .u8 0) := by
  have h32 : rowB (zerN 32) = List.replicate 32 (.int .u8 0) := by unfold rowB ints nn zerN; rw [List.map_replicate, List.map_replicate]; rfl
  unfold zerS rowsB
  rw [List.map_replicate, h32]
  induction n with
  | zero => rfl
  | succ n ih => rw [List.replicate_succ, List.flatten_cons, ih, List.replicate_append_replicate]; congr 1; omega
theorem made_same (k n : Nat) (x : Value) (hk : 0 < k) : madeCells (List.replicate k x).toArray n = (List.replicate n x).toArray := by
  apply Array.ext
  · simp [madeCells]
  · intro j h1 h2
    have hm : j % k < k := Nat.mod_lt _ hk
    simp [madeCells, hm]
theorem sec_make (n : Nat) (hn : n ≤ 4096) (w : World) : (Instr.makeSlice 45 (.int .i64 (n : Int)) (.int .i64 (n : Int))).run Try.prog w = .ok (.slice (some ⟨w.heap.size, 0, none⟩) n n) (w.alloc (.cells (zerS n).toArray 54)) := by
  obtain ⟨i, hi, hz, hs, hb⟩ := info_parts2 info_sec
  have hr := run_make (P := Try.prog) w 45 54 i _ Try.underlying45 hi hz .i64 .i64 (n : Int) (n : Int) (by omega) (Int.le_refl _) (by rw [hb]; omega) (by omega)
  rw [hr]
  simp only [Int.toNat_natCast, hs]
  have e : madeCells (Value.agg (rowB (zerN 32)).toArray).cells (n * 32) = (zerS n).toArray := by
    rw [zerS_is]
    show madeCells (rowB (zerN 32)).toArray (n * 32) = _
    have h32 : rowB (zerN 32) = List.replicate 32 (.int .u8 0) := by unfold rowB ints nn zerN; rw [List.map_replicate, List.map_replicate]; rfl
    rw [h32]
    exact made_same 32 (n * 32) _ (by decide)
  rw [e]
def nwF (n : Nat) (u : Nat → Value) : Array Value := #[.int .i64 (n : Int), undef, u 6, .int .i64 (n : Int), .bool false, .bool false, .int .i64 (n : Int), .bool false, .bool false, u 0, u 1, u 2, u 3, u 4, u 5]
def nwD (b m n : Nat) : List Value := [.slice (some ⟨b, 0, none⟩) n n, .map (some m), pwV none]
def nwS (H n : Nat) (i : Nat) (v : Value) (W : World) : Prop :=
  match i with
  | 0 => v = .int .i64 (n : Int)
  | 1 => ∃ b, H ≤ b ∧ v = .slice (some ⟨b, 0, none⟩) n n ∧ Blk W b 54 (zerS n)
  | 2 => ∃ m, H ≤ m ∧ v = .map (some m) ∧ W.heap[m]? = some (.map #[] 0)
  | 3 => v = pwV none
  | 4 => ∃ b m, H ≤ b ∧ H ≤ m ∧ v = .agg (nwD b m n).toArray ∧ Blk W b 54 (zerS n) ∧ W.heap[m]? = some (.map #[] 0)
  | 5 | 6 => ∃ D b m, H ≤ D ∧ H ≤ b ∧ H ≤ m ∧ v = .pointer (some ⟨D, 0, none⟩) ∧ Blk W D 51 (nwD b m n) ∧ Blk W b 54 (zerS n) ∧ W.heap[m]? = some (.map #[] 0)
  | _ => True
theorem heap_lt {W : World} {m : Nat} {o : Obj} (h : W.heap[m]? = some o) : m < W.heap.size := (Array.getElem?_eq_some_iff.1 h).1
theorem heap_below {W W' : World} {m : Nat} {o : Obj} (h : W.heap[m]? = some o) (hb : Below W.heap.size W W') : W'.heap[m]? = some o := (hb.block m (heap_lt h)).trans h
theorem nwS_mono (H n : Nat) (i : Nat) (v : Value) (W W' : World) (h : nwS H n i v W) (hb : Below W.heap.size W W') : nwS H n i v W' := by
  match i with
  | 0 | 3 => exact h
  | 1 =>
    obtain ⟨b, h1, h2, h3⟩ := h
    exact ⟨b, h1, h2, h3.below hb h3.lt⟩
  | 2 =>
    obtain ⟨b, h1, h2, h3⟩ := h
    exact ⟨b, h1, h2, heap_below h3 hb⟩
  | 4 =>
    obtain ⟨b, m, h1, h2, h3, h4, h5⟩ := h
    exact ⟨b, m, h1, h2, h3, h4.below hb h4.lt, heap_below h5 hb⟩
  | 5 | 6 =>
    obtain ⟨D, b, m, h1, h2, h3, h4, h5, h6, h7⟩ := h
    exact ⟨D, b, m, h1, h2, h3, h4, h5.below hb h5.lt, h6.below hb h6.lt, heap_below h7 hb⟩
  | _ + 7 => trivial
theorem d_New_no (n : Int) (w : World) (hn : ¬ (1 ≤ n ∧ n ≤ 4096)) : Calls Try.prog 9 #[.int .i64 n] w fun e w' => e = .returned (.pointer none) ∧ w' = w := by
  by_cases h1 : n < 1
  · have d1 : decide (n < 1) = true := by simpa using h1
    clear hn
    go_enter Try.func9, Try.ntmps9
    go_wp2
    go_ret
    exact ⟨rfl, rfl⟩
  · have d1 : decide (n < 1) = false := by simpa using h1
    have h2 : 4096 < n := by omega
    have d2 : decide (4096 < n) = true := by simpa using h2
    have d3 : decide (n > 4096) = true := d2
    clear hn
    go_enter Try.func9, Try.ntmps9
    go_wp2
    go_ret
    exact ⟨rfl, rfl⟩
set_option maxRecDepth 100000 in
theorem d_New_yes (n : Nat) (w : World) (base : Nat) (h1 : 1 ≤ n) (h2 : n ≤ 4096) (hb : base ≤ w.heap.size) :
    Calls Try.prog 9 #[.int .i64 (n : Int)] w fun e w' => ∃ D F, e = .returned (ptD D) ∧ DkF base w' D (newD n) F ∧ Below w.heap.size w w' ∧ ∀ i, F i → w.heap.size ≤ i := by
  have d1 : ¬ (n : Int) < 1 := by omega
  have d2 : ¬ (4096 : Int) < (n : Int) := by omega
  have hmk := fun w' => sec_make n h2 w'
  have hmm := @run_makeMap Try.prog
  have HL := Lib.hid (fun w => d_lasting w)
  have hfin : ∀ (D b m : Nat) (W : World), Below w.heap.size w W → w.heap.size ≤ D → w.heap.size ≤ b → w.heap.size ≤ m → Blk W D 51 (nwD b m n) → Blk W b 54 (zerS n) → W.heap[m]? = some (.map #[] 0) →
      ∃ F, DkF base W D (newD n) F ∧ Below w.heap.size w W ∧ ∀ i, F i → w.heap.size ≤ i := by
    intro D b m W hB q1 q2 q3 q4 q5 q6
    have hlen : (newD n).sec.length = n := by simp [newD]
    have hom : W.ownsMap Try.prog 3 hdrR m 0 (.map []) := ⟨#[], 0, q6, ⟨by simp, MapKept.stamped_empty 0, by simp⟩, Nat.le_refl _, rfl⟩
    have hk : DkW W base D b m 0 (.map []) noV none (newD n) := by
      refine ⟨by rw [hlen]; exact q4, q5, PenW.none hom, rfl, fun i => OwnR.nil _ _ _ _, (fun i j b h => by cases h), (fun i b h => by cases h), (fun L l e => by cases e), rfl, by omega, by omega, by omega⟩
    refine ⟨_, ⟨b, m, 0, _, _, _, hk, rfl⟩, hB, ?_⟩
    rintro i (rfl | rfl | rfl | e | ⟨j, e⟩)
    · exact q1
    · exact q2
    · exact q3
    · cases e
    · cases e
  have HFIN := Lib.hid hfin
  clear hfin
  go_enter Try.func9, Try.ntmps9
  go_wp2
  refine region_free mixed (by kernel_rfl) (nwF n) [] (fun i => if i = 6 then .pointer none else undef) rfl (NewBut w) (show Below _ _ _ from (Below.refl _ _).drew) (nwS w.heap.size n) ?mono ?step ?end_
  case mono => exact fun i v W W' h _ _ hb => nwS_mono _ _ i v W W' h hb
  case step =>
    intro u W i o ho hC hd
    have hr := Below.refl W.heap.size W
    rcases i with _ | _ | _ | _ | _ | _ | _ | i
    all_goals try (simp only [List.getElem?_cons_zero, List.getElem?_cons_succ, Option.some.injEq] at ho; subst ho)
    · unfold nwF; go_wp2_with fail
      exact ⟨_, rfl, rfl, hC, hr⟩
    · have h0 : u 0 = _ := hd ⟨0, .data⟩ (by simp) rfl
      unfold nwF; rw [h0]; go_wp2_with fail
      have hz := hC.size
      exact ⟨_, by simp [upd, h0], ⟨W.heap.size, hz, rfl, Blk.new' W _ _ rfl⟩, Below.alloc hC hz _, hr.alloc (Nat.le_refl _) _⟩
    · unfold nwF; go_wp2_with fail
      have hz := hC.size
      exact ⟨_, rfl, ⟨W.heap.size, hz, rfl, (MapKept.heap_alloc W _).1⟩, Below.alloc hC hz _, hr.alloc (Nat.le_refl _) _⟩
    · unfold nwF; go_wp2_with ((with_reducible refine (HL.out _).mono ?_); rintro e w5 ⟨rfl, rfl⟩)
      exact ⟨_, rfl, rfl, hC, hr⟩
    · obtain ⟨b, q1, h4, q3⟩ : ∃ b, w.heap.size ≤ b ∧ u 1 = .slice (some ⟨b, 0, none⟩) n n ∧ Blk W b 54 (zerS n) := hd ⟨1, .data⟩ (by simp) rfl
      obtain ⟨m, r1, h5, r3⟩ : ∃ m, w.heap.size ≤ m ∧ u 2 = .map (some m) ∧ W.heap[m]? = some (.map #[] 0) := hd ⟨2, .data⟩ (by simp) rfl
      have h6 : u 3 = pwV none := hd ⟨3, .data⟩ (by simp) rfl
      unfold pwV at h6
      unfold nwF; rw [h4, h5, h6]; go_wp2_with fail
      exact ⟨_, by simp [upd, h4, h5, h6, nwD, pwV], ⟨b, m, q1, r1, rfl, q3, r3⟩, hC, hr⟩
    · obtain ⟨b, m, q1, q2, h4, q4, q5⟩ : ∃ b m, w.heap.size ≤ b ∧ w.heap.size ≤ m ∧ u 4 = .agg (nwD b m n).toArray ∧ Blk W b 54 (zerS n) ∧ W.heap[m]? = some (.map #[] 0) := hd ⟨4, .data⟩ (by simp) rfl
      have hz := hC.size
      have hal := hr.alloc (Nat.le_refl _) (.cells (nwD b m n).toArray 51)
      have K1 := Lib.hid (Blk.new W 51 (nwD b m n))
      have K2 := Lib.hid (q4.below hal q4.lt)
      have K3 := Lib.hid (heap_below q5 hal)
      have K4 := Lib.hid (Below.alloc hC hz (.cells (nwD b m n).toArray 51))
      have K5 := Lib.hid hal
      unfold nwF; rw [h4]; unfold nwD pwV
      unfold nwD pwV at K1 K2 K3 K4 K5
      clear q4 q5 hal hC hr
      go_wp2_with fail
      exact ⟨_, by simp [upd, h4, nwD, pwV], ⟨W.heap.size, b, m, hz, q1, q2, rfl, K1.out, K2.out, K3.out⟩, K4.out, K5.out⟩
    · obtain ⟨D, b, m, q1, q2, q3, h5, q4, q5, q6⟩ : ∃ D b m, w.heap.size ≤ D ∧ w.heap.size ≤ b ∧ w.heap.size ≤ m ∧ u 5 = .pointer (some ⟨D, 0, none⟩) ∧ Blk W D 51 (nwD b m n) ∧ Blk W b 54 (zerS n) ∧ W.heap[m]? = some (.map #[] 0) := hd ⟨5, .data⟩ (by simp) rfl
      unfold nwF; rw [h5]; go_wp2_with fail
      exact ⟨_, by simp [upd, h5], ⟨D, b, m, q1, q2, q3, rfl, q4, q5, q6⟩, hC, hr⟩
    · simp at ho
  case end_ =>
    intro u W hC hS
    obtain ⟨D, b, m, q1, q2, q3, h6, q4, q5, q6⟩ : ∃ D b m, w.heap.size ≤ D ∧ w.heap.size ≤ b ∧ w.heap.size ≤ m ∧ u 6 = .pointer (some ⟨D, 0, none⟩) ∧ Blk W D 51 (nwD b m n) ∧ Blk W b 54 (zerS n) ∧ W.heap[m]? = some (.map #[] 0) := hS 6 (by decide)
    unfold nwF
    rw [h6]
    obtain ⟨F, f1, f2, f3⟩ := HFIN.out D b m W hC q1 q2 q3 q4 q5 q6
    clear hS q4 q5 q6
    go_wp2
    go_ret
    exact ⟨D, F, rfl, f1, f2, f3⟩
end Go.Proofs.Ytdpdgmfmjgjmiaa
