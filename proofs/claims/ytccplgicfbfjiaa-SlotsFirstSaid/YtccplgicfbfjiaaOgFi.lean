/- Sectors written one by one, as far as there is power; a frame filled up to whole sectors. -/
import Derived.Test.YtccplgicfbfjiaaOgCh
import Derived.Test.YtccplgicfbfjiaaY3
import Derived.IntWalk
namespace Go.Proofs.Ytccplgicfbfjiaa
open Go.RowKit Go.Shelf
set_option linter.unusedVariables false

theorem svF_take : ∀ (l : List (List Nat)) (d : DiskM) (a i : Nat), i ≤ l.length → (∀ j, j < i → offD (writesD d a (l.take j)) = false) → svF d a l = svF (writesD d a (l.take i)) (a + i) (l.drop i)
  | l, d, a, 0, _, _ => by rw [List.take_zero, List.drop_zero]; rfl
  | [], d, a, i + 1, h, _ => by simp at h
  | s :: l, d, a, i + 1, h, hj => by
    have h0 : offD d = false := hj 0 (Nat.succ_pos i)
    have := svF_take l (writeD d a s) (a + 1) i (by simpa using h) fun j hji => hj (j + 1) (by omega)
    show svF d a (s :: l) = svF (writesD (writeD d a s) (a + 1) (l.take i)) (a + (i + 1)) (l.drop i)
    rw [show a + (i + 1) = a + 1 + i by omega, ← this]
    conv => lhs; unfold svF
    rw [h0]
    rfl
theorem svF_all (l : List (List Nat)) (d : DiskM) (a : Nat) (h : ∀ j, j < l.length → offD (writesD d a (l.take j)) = false) : svF d a l = (syE (writesD d a l), syD (writesD d a l)) := by
  have := svF_take l d a l.length (Nat.le_refl _) h
  rw [List.take_length, List.drop_length] at this
  exact this
theorem svF_stop (l : List (List Nat)) (d : DiskM) (a i : Nat) (hi : i < l.length) (h : ∀ j, j < i → offD (writesD d a (l.take j)) = false) (ho : offD (writesD d a (l.take i)) = true) : svF d a l = (130, writesD d a (l.take i)) := by
  rw [svF_take l d a i (by omega) h]
  cases hd : l.drop i with
  | nil => have := congrArg List.length hd; rw [List.length_drop] at this; simp at this; omega
  | cons s r => unfold svF; rw [ho]; rfl
theorem wr_off {d : DiskM} {i : Nat} {s : List Nat} (hi : i < d.sec.length) (hs : s.length = 32) (ho : offD d = true) : wrE d (i : Int) s.length = 130 ∧ wrD d (i : Int) s = d := by
  have h1 : inD d (i : Int) := by unfold inD; omega
  have h2 : wrE d (i : Int) s.length = 130 := by unfold wrE; rw [if_neg (by simpa using h1), if_neg (by simpa using hs), ho]; rfl
  refine ⟨h2, ?_⟩
  unfold wrD
  rw [h2, if_neg (by decide)]
/-- the chunks of those indices -/
def pcsL (p : List Nat) (l : List Nat) : List (List Nat) := l.map (pcJ p)
theorem pcsL_range (p : List Nat) (n : Nat) : pcsL p (List.range n) = chunksK n p := (chunks_map n p).symm
theorem chunks_take (p : List Nat) {i n : Nat} (h : i ≤ n) : (chunksK n p).take i = chunksK i p := by
  rw [chunks_map, chunks_map, ← List.map_take]
  congr 1
  apply List.ext_getElem
  · simp; omega
  · intro j h1 h2; simp
theorem pad_fill (x : List Nat) : fillJ (frameK x) (secK x.length) = padK x := by unfold fillJ padK; rw [frame_len]
set_option maxRecDepth 100000 in
theorem g_filled (s : ByteArray) (w : World) (hs : s.size ≤ 2000) (k : Nat) (hk : (s.size + 31) / 32 = k) (f : ByteArray) (hf : tx (fillJ (sl s) k) = f) :
    Calls Try.prog 37 #[.string s] w fun e w' => e = .returned (.string f) ∧ Below w.heap.size w w' := by
  obtain ⟨r, hr⟩ : ∃ r, s.size % 32 = r := ⟨_, rfl⟩
  have e1 : ((s.size : Nat) : Int).tmod 32 = (r : Int) := by rw [← hr]; exact (Int.ofNat_tmod s.size 32)
  have hr32 : r < 32 := by omega
  by_cases h0 : r = 0
  · subst h0
    have hf2 : s = f := by
      rw [← hf]
      unfold fillJ
      rw [show 32 * k - (sl s).length = 0 by rw [sl_len]; omega]
      show s = tx (sl s ++ [])
      rw [List.append_nil, tx_sl]
    subst hf2
    have i1 : (s.size : Int) ≤ 2000 := by omega
    clear hf hk hs
    go_enter Try.func37, Try.ntmps37
    go_wp2
    go_ret
    exact ⟨rfl, Below.refl _ _⟩
  · obtain ⟨Z, hZ⟩ : ∃ Z, tx (zerN (32 - r)) = Z := ⟨_, rfl⟩
    have hZz : Z.size = 32 - r := by rw [← hZ, tx_size, zerN_len]
    have hf2 : s ++ Z = f := by
      rw [← hf, ← hZ]
      unfold fillJ
      rw [sl_len, show 32 * k - s.size = 32 - r by omega]
      conv => lhs; rw [← tx_sl s, ← tx_app]
    have hadd := fun w' => run_string_add_sum (P := Try.prog) w' s Z (by rw [hZz]; omega)
    rw [hf2] at hadd
    have HREP := Lib.hid (j_Repeat (32 - r) (by omega) w)
    rw [hZ] at HREP
    have e2 : IntKind.i64.wrap (32 - (r : Int)) = ((32 - r : Nat) : Int) := by rw [IntKind.wrap_i64]; omega
    have e3 : (32 : Int) - (r : Int) = ((32 - r : Nat) : Int) := by omega
    have i1 : (s.size : Int) ≤ 2000 := by omega
    have i2 : (r : Int) < 32 := by omega
    have i3 : ¬ (r : Int) = 0 := by omega
    obtain ⟨m, hm⟩ : ∃ m, 32 - r = m := ⟨_, rfl⟩
    rw [hm] at e2 e3 HREP
    clear hf hk hs hZ hZz hf2 hr h0 hm hr32
    go_enter Try.func37, Try.ntmps37
    go_wp2_with fail
    (with_reducible refine HREP.out.mono ?_)
    rintro e w1 ⟨rfl, hb1⟩
    have HB := Lib.hid hb1
    clear hb1
    go_wp2
    go_ret
    exact ⟨rfl, HB.out⟩
end Go.Proofs.Ytccplgicfbfjiaa
