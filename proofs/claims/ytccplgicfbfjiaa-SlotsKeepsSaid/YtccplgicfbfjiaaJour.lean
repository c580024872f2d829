/- A journal's area on a disk, by plain lists: what is appended, torn, cleared (stage 14). -/
import Derived.Test.YtccplgicfbfjiaaZ0
namespace Go.Proofs.Ytccplgicfbfjiaa
set_option linter.unusedVariables false

/-! ### what is found behind frames -/
theorem scan_more : ∀ (l : List (List Nat)) (r : List Nat), (∀ x ∈ l, Bys x ∧ x.length ≤ 1024) → scanK (areaK l ++ r) = (l ++ (scanK r).1, usedK l + (scanK r).2)
  | [], r, _ => by
    show scanK r = ([] ++ (scanK r).1, 0 + (scanK r).2)
    rw [List.nil_append, Nat.zero_add]
  | x :: l, r, hl => by
    have h0 := hl x (by simp)
    have ih := scan_more l r fun y hy => hl y (by simp [hy])
    have e : areaK (x :: l) ++ r = padK x ++ (areaK l ++ r) := by unfold areaK; rw [List.flatMap_cons, List.append_assoc]
    have eu : usedK (x :: l) = secK x.length + usedK l := rfl
    rw [e, scan_pad h0.1 h0.2, ih, eu, Nat.add_assoc]
    rfl
theorem first_head {t x r : List Nat} (h : firstK t = (x, r, 0)) : x.length = fixN t 2 := by
  unfold firstK at h
  split at h
  · simp at h
  · split at h
    · simp at h
    · split at h
      · simp at h
      · split at h
        · simp at h
        · split at h
          · simp at h
          · simp only [Prod.mk.injEq, and_true] at h
            obtain ⟨rfl, rfl⟩ := h
            rw [List.length_take, List.length_drop]
            omega
/-- a torn frame, with no frame behind it: one is found at most -/
theorem scan_torn {n : Nat} {t z : List Nat} (ht : t.length = 32 * secK n) (hh : fixN (t ++ z) 2 = n ∨ (firstK (t ++ z)).2.2 ≠ 0) (hz : (firstK z).2.2 ≠ 0) : scanK (t ++ z) = ([], 0) ∨ ∃ x, x.length = n ∧ scanK (t ++ z) = ([x], secK n) := by
  by_cases h0 : (firstK (t ++ z)).2.2 = 0
  · have hf : firstK (t ++ z) = ((firstK (t ++ z)).1, (firstK (t ++ z)).2.1, 0) := by rw [← h0]
    have hn := first_head hf
    have he : (firstK (t ++ z)).1.length = n := by
      rcases hh with h | h
      · rw [hn, h]
      · exact absurd h0 h
    right
    refine ⟨_, he, ?_⟩
    rw [scan_step hf, he, ← ht, List.drop_left, scan_stop hz]
    rfl
  · exact .inl (scan_stop h0)
/-- a torn first sector over bytes 0 -/
theorem torn_head {s : List Nat} (hs : s.length = 32) (b : Nat) : tornS (zerN 32) [s] b = zerN 32 ∨ (tornS (zerN 32) [s] b).take 2 = s.take 2 := by
  rw [torn_one]
  split
  · exact .inr rfl
  · have : b % 4 = 0 ∨ b % 4 = 1 ∨ b % 4 = 2 ∨ b % 4 = 3 := by omega
    rcases this with h | h | h | h
    · left; rw [h]; rfl
    · right; rw [h, List.take_append_of_le_length (by rw [List.length_take]; omega), List.take_take]; rfl
    · right; rw [h, List.take_append_of_le_length (by rw [List.length_take]; omega), List.take_take]; rfl
    · right; rw [h, List.take_append_of_le_length (by rw [List.length_take]; omega), List.take_take]; rfl
/-! ### bytes in sectors -/
def chunksK : Nat → List Nat → List (List Nat)
  | 0, _ => []
  | k + 1, l => l.take 32 :: chunksK k (l.drop 32)
theorem chunks_len : ∀ (k : Nat) (l : List Nat), (chunksK k l).length = k
  | 0, _ => rfl
  | k + 1, l => by rw [chunksK, List.length_cons, chunks_len]
theorem chunks_join : ∀ (k : Nat) (l : List Nat), l.length = 32 * k → (chunksK k l).flatten = l
  | 0, l, h => by
    have e : l = [] := List.eq_nil_of_length_eq_zero (by omega)
    rw [e]; rfl
  | k + 1, l, h => by
    rw [chunksK, List.flatten_cons, chunks_join k (l.drop 32) (by rw [List.length_drop]; omega), List.take_append_drop]
theorem chunks_each : ∀ (k : Nat) (l : List Nat), l.length = 32 * k → ∀ s ∈ chunksK k l, s.length = 32
  | 0, l, _, s, hs => by cases hs
  | k + 1, l, h, s, hs => by
    rcases List.mem_cons.1 hs with rfl | hs
    · rw [List.length_take]; omega
    · exact chunks_each k (l.drop 32) (by rw [List.length_drop]; omega) s hs
/-- sectors written, one behind the other -/
def writesD : DiskM → Nat → List (List Nat) → DiskM
  | d, _, [] => d
  | d, i, s :: l => writesD (writeD d i s) (i + 1) l
theorem writes_sec : ∀ (l : List (List Nat)) (d : DiskM) (i : Nat), (writesD d i l).sec = d.sec
  | [], d, i => rfl
  | s :: l, d, i => writes_sec l _ _
theorem writes_out : ∀ (l : List (List Nat)) (d : DiskM) (i k : Nat), (k < i ∨ i + l.length ≤ k) → readD (writesD d i l) k = readD d k
  | [], d, i, k, _ => rfl
  | s :: l, d, i, k, h => by
    rw [writesD, writes_out l _ _ k (by rw [List.length_cons] at h; omega), read_other d s (by rw [List.length_cons] at h; omega)]
theorem writes_in : ∀ (l : List (List Nat)) (d : DiskM) (i k : Nat), k < l.length → readD (writesD d i l) (i + k) = l.getD k []
  | s :: l, d, i, 0, _ => by
    rw [writesD, writes_out l _ _ _ (.inl (by omega)), Nat.add_zero, read_same]
    rfl
  | s :: l, d, i, k + 1, h => by
    rw [writesD, show i + (k + 1) = i + 1 + k by omega, writes_in l _ _ k (by simpa using h)]
    rfl
/-- the bytes of sectors -/
def areaD (d : DiskM) (a n : Nat) : List Nat := (List.range n).flatMap fun i => readD d (a + i)
theorem area_split (d : DiskM) (a n k : Nat) : areaD d a (n + k) = areaD d a n ++ areaD d (a + n) k := by
  unfold areaD
  rw [List.range_add, List.flatMap_append, List.flatMap_map]
  simp only [Nat.add_assoc]
theorem areaD_len {d : DiskM} (h : DiskOk d) {a n : Nat} (hn : a + n ≤ d.sec.length) : (areaD d a n).length = 32 * n := by
  induction n with
  | zero => rfl
  | succ n ih =>
    rw [area_split, List.length_append, ih (by omega)]
    have : areaD d (a + n) 1 = readD d (a + n) := by unfold areaD; simp [List.range_succ]
    rw [this, read_len h (by omega)]
    omega
theorem area_map (d : DiskM) (a n : Nat) : areaD d a n = ((List.range n).map fun i => readD d (a + i)).flatten := List.flatMap_def
theorem area_same {d d' : DiskM} {a n : Nat} (h : ∀ i, i < n → readD d' (a + i) = readD d (a + i)) : areaD d' a n = areaD d a n := by
  rw [area_map, area_map]
  congr 1
  exact List.map_congr_left fun i hi => h i (List.mem_range.1 hi)
theorem area_writes (d : DiskM) (a : Nat) (l : List (List Nat)) : areaD (writesD d a l) a l.length = l.flatten := by
  rw [area_map]
  congr 1
  apply List.ext_getElem (by simp)
  intro i h1 h2
  rw [List.getElem_map, List.getElem_range, writes_in l d a i h2, List.getD_eq_getElem?_getD, List.getElem?_eq_getElem h2]
  rfl
theorem area_out (d : DiskM) {a n i : Nat} {l : List (List Nat)} (h : a + n ≤ i ∨ i + l.length ≤ a) : areaD (writesD d i l) a n = areaD d a n := area_same fun k hk => writes_out l d i (a + k) (by omega)
/-- a frame that is written: all that was appended, and it -/
theorem area_append {d : DiskM} {a n : Nat} {l : List (List Nat)} (h : areaD d a n = areaK l) (x : List Nat) : areaD (writesD d (a + n) (chunksK (secK x.length) (padK x))) a (n + secK x.length) = areaK (l ++ [x]) := by
  rw [area_split, area_out d (.inl (Nat.le_refl _)), h, area_snoc]
  have := area_writes d (a + n) (chunksK (secK x.length) (padK x))
  rw [chunks_len, chunks_join _ _ (pad_len x)] at this
  rw [this]
theorem sync_area {d : DiskM} {a n : Nat} (h : a + n ≤ d.sec.length) : areaD (syncD d) a n = areaD d a n := area_same fun i hi => sync_read (by omega)
/-- what was synced outlives a crash -/
theorem crash_area {d : DiskM} {a n : Nat} (h : a + n ≤ d.sec.length) (hp : ∀ i, i < n → penD d.pen (a + i) = []) (keep : List Nat) : areaD (crashD d keep) a n = areaD d a n := area_same fun i hi => by
  rw [crash_still keep (by omega) (hp i hi)]
  unfold readD
  rw [hp i hi, last_nil]
/-! ### power that goes while a frame is written -/
theorem writes_pen : ∀ (l : List (List Nat)) (d : DiskM) (i k : Nat), penD (writesD d i l).pen k = penD d.pen k ++ (if i ≤ k ∧ k < i + l.length then [l.getD (k - i) []] else [])
  | [], d, i, k => by
    rw [if_neg (by show ¬ (i ≤ k ∧ k < i + 0); omega), List.append_nil]
    rfl
  | s :: l, d, i, k => by
    rw [writesD, writes_pen l (writeD d i s) (i + 1) k]
    have e : (writeD d i s).pen = d.pen ++ [(i, s)] := rfl
    rw [e, pen_app, List.append_assoc]
    congr 1
    rw [List.length_cons]
    by_cases hk : i = k
    · subst hk
      rw [pen_same, if_neg (by omega), if_pos (by omega), Nat.sub_self]
      rfl
    · rw [pen_other s hk, List.nil_append]
      by_cases h : i + 1 ≤ k ∧ k < i + 1 + l.length
      · rw [if_pos h, if_pos (by omega), show k - i = (k - (i + 1)) + 1 by omega]
        rfl
      · rw [if_neg h, if_neg (by omega)]
/-- what a crash leaves of sectors of bytes 0 that were written once, or not -/
theorem crash_zero {d : DiskM} (keep : List Nat) {i : Nat} (hi : i < d.sec.length) (h0 : d.sec.getD i [] = zerN 32) {s : List Nat} (hs : s.length = 32) (hp : penD d.pen i = [] ∨ penD d.pen i = [s]) : readD (crashD d keep) i = zerN 32 ∨ (readD (crashD d keep) i).take 2 = s.take 2 := by
  rw [crash_read keep hi]
  unfold crashS
  rcases hp with hp | hp
  · rw [if_pos hp, h0]; exact .inl rfl
  · rw [hp, if_neg (by simp), h0]
    exact torn_head hs _
theorem zero_area {d : DiskM} {a n : Nat} (h : ∀ i, i < n → readD d (a + i) = zerN 32) : (firstK (areaD d a n)).2.2 ≠ 0 := by
  cases n with
  | zero => exact first_nil
  | succ n =>
    have e : areaD d a (n + 1) = zerN 32 ++ areaD d (a + 1) n := by
      rw [Nat.add_comm, area_split]
      have : areaD d a 1 = readD d a := by unfold areaD; simp [List.range_succ]
      have h1 := h 0 (by omega)
      rw [Nat.add_zero] at h1
      rw [this, h1]
    rw [e]
    exact first_blank _
/-- the first two bytes of a frame's first sector tell how long it is -/
theorem pad_head {x : List Nat} (hl : x.length ≤ 1024) (s z : List Nat) (hs : s.take 2 = ((padK x).take 32).take 2) (h2 : 2 ≤ s.length) : fixN (s ++ z) 2 = x.length := by
  have hp := pad_len x
  have hpos := secK_pos x.length
  have e1 : fixN (s ++ z) 2 = fixN (s.take 2) 2 := by
    have := fix_left (s.take 2) (s.drop 2 ++ z) 2 (by rw [List.length_take]; omega)
    rw [← List.append_assoc, List.take_append_drop] at this
    exact this
  have e2 : s.take 2 = bigL x.length 2 := by
    rw [hs, List.take_take]
    have := (frame_parts x (zerN (32 * secK x.length - (6 + x.length)))).1
    exact this
  rw [e1, e2]
  have := fix_put x.length 2 []
  rw [List.append_nil] at this
  rw [this]
  exact Nat.mod_eq_of_lt (by omega)
/-- JournalTorn by lists: synced frames, bytes 0 behind them; the first k sectors of one more are written, and the disk crashes -/
theorem torn_append {d : DiskM} (hd : DiskOk d) (hp : d.pen = []) {a n m : Nat} {l : List (List Nat)} (hl : ∀ x ∈ l, Bys x ∧ x.length ≤ 1024) (ha : areaD d a n = areaK l) {x : List Nat} (hx : x.length ≤ 1024)
    (hm : a + n + secK x.length + m ≤ d.sec.length) (h0 : ∀ i, a + n ≤ i → i < d.sec.length → readD d i = zerN 32) (k : Nat) (keep : List Nat) :
    let c := crashD (writesD d (a + n) ((chunksK (secK x.length) (padK x)).take k)) keep
    scanK (areaD c a (n + (secK x.length + m))) = (l, usedK l) ∨ ∃ y, y.length = x.length ∧ scanK (areaD c a (n + (secK x.length + m))) = (l ++ [y], usedK l + secK x.length) := by
  intro c
  have hpos := secK_pos x.length
  have hcl := chunks_len (secK x.length) (padK x)
  have hce := chunks_each (secK x.length) (padK x) (pad_len x)
  generalize hch : chunksK (secK x.length) (padK x) = ch at hcl hce
  have hw := writes_pen (ch.take k) d (a + n)
  have hsec := writes_sec (ch.take k) d (a + n)
  have hlk : (ch.take k).length ≤ secK x.length := by rw [List.length_take]; omega
  have hc : c = crashD (writesD d (a + n) (ch.take k)) keep := by show crashD _ _ = _; rw [hch]
  have hok : DiskOk c := by
    rw [hc]
    refine disk_crash ⟨by rw [hsec]; exact hd.sec, fun p hpp => ?_⟩ keep
    have wr : ∀ (q : List (List Nat)) (e : DiskM) (i : Nat), DiskOk e → i + q.length ≤ e.sec.length → (∀ s ∈ q, s.length = 32) → DiskOk (writesD e i q) := by
      intro q
      induction q with
      | nil => intro e i he _ _; exact he
      | cons s q ih =>
        intro e i he hi hq
        rw [List.length_cons] at hi
        exact ih _ _ (disk_write he (by omega) (hq s (by simp))) (by rw [safe_write]; omega) fun t ht => hq t (by simp [ht])
    exact (wr (ch.take k) d (a + n) hd (by omega) fun s hs => hce s (List.mem_of_mem_take hs)).pen p hpp
  have hread : ∀ i, i < d.sec.length → (i < a + n ∨ a + n + (ch.take k).length ≤ i) → readD c i = readD d i := fun i hi ho => by
    rw [hc, crash_still keep (by rw [hsec]; exact hi) (by rw [hw, hp, if_neg (by omega)]; rfl), hsec]
    unfold readD
    rw [hp]
    rfl
  have e1 : areaD c a n = areaK l := by rw [← ha]; exact area_same fun i hi => hread (a + i) (by omega) (.inl (by omega))
  rw [area_split, e1, scan_more l _ hl, area_split]
  have hz : (firstK (areaD c (a + n + secK x.length) m)).2.2 ≠ 0 := zero_area fun i hi => by
    rw [hread _ (by omega) (.inr (by omega))]
    exact h0 _ (by omega) (by omega)
  have hcs : c.sec.length = d.sec.length := by rw [hc, crash_len, hsec]
  have ht : (areaD c (a + n) (secK x.length)).length = 32 * secK x.length := areaD_len hok (by omega)
  have hfst : ∃ z, areaD c (a + n) (secK x.length) = readD c (a + n) ++ z := by
    refine ⟨areaD c (a + n + 1) (secK x.length - 1), ?_⟩
    have : secK x.length = 1 + (secK x.length - 1) := by omega
    rw [this, area_split, ← this]
    have : areaD c (a + n) 1 = readD c (a + n) := by unfold areaD; simp [List.range_succ]
    rw [this]
  obtain ⟨z, ez⟩ := hfst
  have h32 : (readD c (a + n)).length = 32 := read_len hok (by omega)
  have hh : fixN (areaD c (a + n) (secK x.length) ++ areaD c (a + n + secK x.length) m) 2 = x.length ∨ (firstK (areaD c (a + n) (secK x.length) ++ areaD c (a + n + secK x.length) m)).2.2 ≠ 0 := by
    rw [ez, List.append_assoc]
    have hs0 : d.sec.getD (a + n) [] = zerN 32 := by
      have := h0 (a + n) (Nat.le_refl _) (by omega)
      unfold readD at this
      rw [hp] at this
      exact this
    have hg : ch.getD 0 [] = (padK x).take 32 := by
      rw [← hch]
      cases hq : secK x.length with
      | zero => omega
      | succ q => rfl
    have hpn : penD (writesD d (a + n) (ch.take k)).pen (a + n) = [] ∨ penD (writesD d (a + n) (ch.take k)).pen (a + n) = [(padK x).take 32] := by
      rw [hw, hp]
      by_cases hk : a + n ≤ a + n ∧ a + n < a + n + (ch.take k).length
      · right
        rw [if_pos hk, Nat.sub_self, ← hg]
        show [] ++ [(ch.take k).getD 0 []] = _
        rw [List.nil_append]
        congr 1
        have hk0 : 0 < k := by
          rw [List.length_take] at hk; omega
        rw [List.getD_eq_getElem?_getD, List.getD_eq_getElem?_getD, List.getElem?_take, if_pos hk0]
      · left
        rw [if_neg hk]
        rfl
    have := crash_zero (d := writesD d (a + n) (ch.take k)) keep (i := a + n) (by rw [hsec]; omega) (by rw [hsec]; exact hs0) (s := (padK x).take 32) (by rw [List.length_take, pad_len]; omega) hpn
    rw [← hc] at this
    rcases this with h | h
    · right
      rw [h]
      exact first_blank _
    · left
      exact pad_head hx _ _ h (by omega)
  rcases scan_torn ht hh hz with h | ⟨y, hy, h⟩
  · left
    rw [h, List.append_nil, Nat.add_zero]
  · right
    exact ⟨y, hy, by rw [h]⟩
end Go.Proofs.Ytccplgicfbfjiaa
