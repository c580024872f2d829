/- A journal on a disk by lists: what stays true of it, act by act (stage 14). -/
import Derived.Test.YtccplgicfbfjiaaZ0
import Derived.Test.YtccplgicfbfjiaaJour
namespace Go.Proofs.Ytccplgicfbfjiaa
open Go.RowKit
set_option linter.unusedVariables false

/-- a journal: its area, and where its next frame stands -/
structure JurM where
  fr : Nat
  to : Nat
  nx : Nat
def apE (m : JurM) (n : Nat) : Nat := if secK n ≤ m.to - m.nx then 0 else 2
def apD1 (d : DiskM) (m : JurM) (n : Nat) : DiskM := if m.nx + secK n < m.to then syncD (writeD d (m.nx + secK n) (zerN 32)) else d
def apD (d : DiskM) (m : JurM) (s : List Nat) : DiskM :=
  if apE m s.length = 0 then syncD (writesD (apD1 d m s.length) m.nx (chunksK (secK s.length) (padK s))) else d
def apM (m : JurM) (n : Nat) : JurM := if apE m n = 0 then { m with nx := m.nx + secK n } else m
def clD (d : DiskM) (fr : Nat) : DiskM := syncD (writeD d fr (zerN 32))
/-- a journal that has these frames -/
structure JurOk (d : DiskM) (m : JurM) (l : List (List Nat)) : Prop where
  lt : m.fr < m.to
  le : m.nx ≤ m.to
  top : m.to ≤ d.sec.length
  nx : m.nx = m.fr + usedK l
  area : areaD d m.fr (usedK l) = areaK l
  bys : ∀ x ∈ l, Bys x ∧ x.length ≤ 1024
  zero : m.nx < m.to → readD d m.nx = zerN 32
/-- a disk that is on, with nothing pending, behind k acts -/
structure DkJ (d : DiskM) (k : Nat) : Prop where
  n : DkN d k
  pen : d.pen = []
  cut : d.cut = false
theorem DkJ.more {d : DiskM} {k k' : Nat} (h : DkJ d k) (hk : k ≤ k') : DkJ d k' := ⟨h.n.more hk, h.pen, h.cut⟩
theorem dkn_write1 {d : DiskM} {k : Nat} (h : DkN d k) {i : Nat} (hi : i < d.sec.length) {s : List Nat} (h32 : s.length = 32) (hs : Bys s) : DkN (writeD d i s) (k + 1) := by
  refine ⟨disk_write h.ok hi h32, h.sec, ?_, ?_, h.bys.1, fun p hp => ?_⟩
  · show (d.pen ++ [(i, s)]).length ≤ k + 1
    rw [List.length_append]; have := h.pen; simp; omega
  · show -((k + 1 : Nat) : Int) ≤ d.rest - 1
    have := h.rest; omega
  · rcases List.mem_append.1 hp with hp | hp
    · exact h.bys.2 p hp
    · rw [List.mem_singleton.1 hp]; exact hs
theorem dkn_sync1 {d : DiskM} {k : Nat} (h : DkN d k) : DkN (syncD d) (k + 1) := by
  refine ⟨disk_sync h.ok, by rw [sync_len]; exact h.sec, Nat.zero_le _, by show -((k + 1 : Nat) : Int) ≤ d.rest - 1; have := h.rest; omega, fun s hs => ?_, fun p hp => by cases hp⟩
  obtain ⟨i, _, rfl⟩ := List.mem_map.1 hs
  exact read_bys h.bys i
theorem dkn_writes : ∀ (l : List (List Nat)) {d : DiskM} {k i : Nat}, DkN d k → i + l.length ≤ d.sec.length → (∀ s ∈ l, s.length = 32 ∧ Bys s) → DkN (writesD d i l) (k + l.length)
  | [], d, k, i, h, _, _ => h
  | s :: l, d, k, i, h, hi, hl => by
    rw [List.length_cons] at hi ⊢
    have h1 := dkn_write1 h (i := i) (by omega) (hl s (by simp)).1 (hl s (by simp)).2
    have := dkn_writes l (i := i + 1) h1 (by rw [safe_write]; omega) fun t ht => hl t (by simp [ht])
    rw [show k + (l.length + 1) = k + 1 + l.length by omega]
    exact this
theorem writes_cut : ∀ (l : List (List Nat)) (d : DiskM) (i : Nat), (writesD d i l).cut = d.cut
  | [], _, _ => rfl
  | s :: l, d, i => writes_cut l (writeD d i s) (i + 1)
theorem chunks_bys : ∀ (k : Nat) {l : List Nat}, Bys l → ∀ s ∈ chunksK k l, Bys s
  | 0, _, _, s, hs => by cases hs
  | k + 1, l, h, s, hs => by
    rcases List.mem_cons.1 hs with rfl | hs
    · exact h.take _
    · exact chunks_bys k (h.drop _) s hs
theorem apD1_len (d : DiskM) (m : JurM) (n : Nat) : (apD1 d m n).sec.length = d.sec.length := by
  unfold apD1
  split
  · rw [sync_len]; rfl
  · rfl
theorem ap_len (d : DiskM) (m : JurM) (s : List Nat) : (apD d m s).sec.length = d.sec.length := by
  unfold apD
  split
  · rw [sync_len, writes_sec, apD1_len]
  · rfl
theorem cl_len (d : DiskM) (fr : Nat) : (clD d fr).sec.length = d.sec.length := by unfold clD; rw [sync_len]; rfl
theorem dkj_new {n : Nat} (h : n ≤ 4096) : DkJ (newD n) 0 := ⟨dkn_new h, rfl, rfl⟩
theorem dkj_crash {d : DiskM} {k : Nat} (h : DkJ d k) (keep : List Nat) : DkJ (crashD d keep) k := ⟨dkn_crash h.n keep, rfl, rfl⟩
theorem dkj_clear {d : DiskM} {k : Nat} (h : DkJ d k) {fr : Nat} (hf : fr < d.sec.length) : DkJ (clD d fr) (k + 2) := ⟨dkn_sync1 (dkn_write1 h.n hf (zerN_len 32) (zer_bys 32)), rfl, h.cut⟩
theorem sec_le {n : Nat} (h : n ≤ 1024) : secK n ≤ 33 := by unfold secK; omega
theorem dkj_append {d : DiskM} {k : Nat} {m : JurM} {l : List (List Nat)} (h : DkJ d k) (hj : JurOk d m l) {s : List Nat} (hs : Bys s) (hl : s.length ≤ 1024) : DkJ (apD d m s) (k + 36) := by
  have h33 := sec_le hl
  have hto := hj.top
  have hnx := hj.le
  unfold apD
  split
  · rename_i he
    have hroom : secK s.length ≤ m.to - m.nx := by
      unfold apE at he
      by_cases hc : secK s.length ≤ m.to - m.nx
      · exact hc
      · rw [if_neg hc] at he; omega
    have h1 : DkN (apD1 d m s.length) (k + 2) := by
      unfold apD1
      split
      · exact dkn_sync1 (dkn_write1 h.n (by omega) (zerN_len 32) (zer_bys 32))
      · exact h.n.more (by omega)
    have hc1 : (apD1 d m s.length).cut = false := by
      unfold apD1
      split
      · exact h.cut
      · exact h.cut
    have h2 := dkn_writes (chunksK (secK s.length) (padK s)) (i := m.nx) h1 (by rw [chunks_len, apD1_len]; omega) fun t ht => ⟨chunks_each _ _ (pad_len s) t ht, chunks_bys _ (pad_bys hs) t ht⟩
    rw [chunks_len] at h2
    refine ⟨(dkn_sync1 h2).more (by omega), rfl, ?_⟩
    show (writesD _ _ _).cut = false
    rw [writes_cut, hc1]
  · exact h.more (by omega)
/-! ### what is read -/
theorem apD1_read (d : DiskM) (m : JurM) {n i : Nat} (hi : i < d.sec.length) (ho : i ≠ m.nx + secK n ∨ m.to ≤ i) : readD (apD1 d m n) i = readD d i := by
  unfold apD1
  split
  · rename_i hc
    rw [sync_read (by rw [safe_write]; exact hi), read_other d _ (by omega)]
  · rfl
theorem ap_read (d : DiskM) (m : JurM) (s : List Nat) {i : Nat} (hi : i < d.sec.length) (ho : i < m.nx ∨ m.to ≤ i) (hle : m.nx ≤ m.to) : readD (apD d m s) i = readD d i := by
  have hp := secK_pos s.length
  unfold apD
  split
  · rename_i he
    have hroom : secK s.length ≤ m.to - m.nx := by
      unfold apE at he
      by_cases hc : secK s.length ≤ m.to - m.nx
      · exact hc
      · rw [if_neg hc] at he; omega
    rw [sync_read (by rw [writes_sec, apD1_len]; exact hi), writes_out _ _ _ _ (by rw [chunks_len]; omega), apD1_read d m hi (by omega)]
  · rfl
theorem cl_read (d : DiskM) {fr i : Nat} (hi : i < d.sec.length) (hne : i ≠ fr) : readD (clD d fr) i = readD d i := by
  unfold clD
  rw [sync_read (by rw [safe_write]; exact hi), read_other d _ (by omega)]
theorem cl_zero (d : DiskM) {fr : Nat} (hi : fr < d.sec.length) : readD (clD d fr) fr = zerN 32 := by
  unfold clD
  rw [sync_read (by rw [safe_write]; exact hi), read_same]
theorem crash_readJ {d : DiskM} (hp : d.pen = []) (keep : List Nat) {i : Nat} (hi : i < d.sec.length) : readD (crashD d keep) i = readD d i := by
  rw [crash_still keep hi (by rw [hp]; rfl)]
  unfold readD
  rw [hp]
  rfl
theorem safe_readJ {d : DiskM} (hp : d.pen = []) {i : Nat} (hi : i < d.sec.length) : sfD d (i : Int) = readD d i := by
  rw [sf_in hi]
  unfold readD
  rw [hp]
  rfl
/-! ### journals -/
theorem jur_open {d : DiskM} {m : JurM} {l : List (List Nat)} (h : JurOk d m l) : scanK (areaD d m.fr (m.to - m.fr)) = (l, usedK l) := by
  have h1 := h.nx
  have h2 := h.le
  by_cases hlt : m.nx < m.to
  · have e : m.to - m.fr = usedK l + (1 + (m.to - m.nx - 1)) := by omega
    rw [e, area_split, h.area, area_split]
    have h0 : areaD d (m.fr + usedK l) 1 = readD d (m.fr + usedK l) := by unfold areaD; simp [List.range_succ]
    rw [h0, ← h1, h.zero hlt]
    exact scan_journal h.bys _
  · have e : m.to - m.fr = usedK l := by omega
    rw [e, h.area]
    exact scan_full h.bys
theorem jur_same {d d' : DiskM} {m : JurM} {l : List (List Nat)} (h : JurOk d m l) (hl : d'.sec.length = d.sec.length) (hr : ∀ i, m.fr ≤ i → i < m.to → readD d' i = readD d i) : JurOk d' m l := by
  have h1 := h.nx
  have h2 := h.le
  refine ⟨h.lt, h.le, by rw [hl]; exact h.top, h.nx, ?_, h.bys, fun hlt => ?_⟩
  · rw [← h.area]
    exact area_same fun i hi => hr _ (by omega) (by omega)
  · rw [hr _ (by omega) hlt]
    exact h.zero hlt
theorem jur_new {n fr to : Nat} (hf : fr < to) (ht : to ≤ n) : JurOk (newD n) ⟨fr, to, fr⟩ [] :=
  ⟨hf, Nat.le_of_lt hf, by simpa [newD] using ht, rfl, rfl, fun x hx => (by cases hx), fun _ => read_new (by show fr < n; omega)⟩
theorem jur_clear {d : DiskM} {fr to : Nat} (hf : fr < to) (ht : to ≤ d.sec.length) : JurOk (clD d fr) ⟨fr, to, fr⟩ [] :=
  ⟨hf, Nat.le_of_lt hf, by rw [cl_len]; exact ht, rfl, rfl, fun x hx => (by cases hx), fun _ => cl_zero d (by omega)⟩
theorem jur_append {d : DiskM} {m : JurM} {l : List (List Nat)} (h : JurOk d m l) {s : List Nat} (he : apE m s.length = 0) (hs : Bys s) (hl : s.length ≤ 1024) : JurOk (apD d m s) (apM m s.length) (l ++ [s]) := by
  have hp := secK_pos s.length
  have h1 := h.nx
  have h2 := h.le
  have h3 := h.top
  have hroom : secK s.length ≤ m.to - m.nx := by
    unfold apE at he
    by_cases hc : secK s.length ≤ m.to - m.nx
    · exact hc
    · rw [if_neg hc] at he; omega
  have hD : apD d m s = syncD (writesD (apD1 d m s.length) m.nx (chunksK (secK s.length) (padK s))) := by unfold apD; rw [if_pos he]
  have hM : apM m s.length = ⟨m.fr, m.to, m.nx + secK s.length⟩ := by unfold apM; rw [if_pos he]
  have ha : areaD (apD1 d m s.length) m.fr (usedK l) = areaK l := by
    rw [← h.area]
    exact area_same fun i hi => apD1_read d m (by omega) (.inl (by omega))
  have hap := area_append ha s
  rw [← h1] at hap
  rw [hM]
  refine ⟨h.lt, by show m.nx + _ ≤ m.to; omega, by rw [ap_len]; exact h3, ?_, ?_, fun x hx => ?_, fun hlt => ?_⟩
  · show m.nx + secK s.length = m.fr + usedK (l ++ [s])
    rw [used_snoc]; omega
  · show areaD _ m.fr _ = _
    rw [hD, sync_area (by rw [writes_sec, apD1_len, used_snoc]; omega), used_snoc]
    exact hap
  · rcases List.mem_append.1 hx with hx | hx
    · exact h.bys x hx
    · rw [List.mem_singleton.1 hx]; exact ⟨hs, hl⟩
  · have hlt' : m.nx + secK s.length < m.to := hlt
    show readD _ (m.nx + secK s.length) = _
    rw [hD, sync_read (by rw [writes_sec, apD1_len]; omega), writes_out _ _ _ _ (.inr (by rw [chunks_len]; omega))]
    unfold apD1
    rw [if_pos hlt', sync_read (by rw [safe_write]; omega), read_same]
theorem ap_full {d : DiskM} {m : JurM} {s : List Nat} (he : apE m s.length ≠ 0) : apD d m s = d ∧ apM m s.length = m := by
  unfold apD apM
  rw [if_neg he, if_neg he]
  exact ⟨rfl, rfl⟩
theorem jur_other {d : DiskM} {m m2 : JurM} {l l2 : List (List Nat)} (h : JurOk d m l) (h2 : JurOk d m2 l2) (ho : m2.to ≤ m.fr ∨ m.to ≤ m2.fr) (s : List Nat) : JurOk (apD d m2 s) m l := by
  have h3 := h.top
  have h4 := h2.nx
  exact jur_same h (ap_len _ _ _) fun i hi hj => ap_read d m2 s (by omega) (by omega) h2.le
theorem jur_clear_other {d : DiskM} {m : JurM} {l : List (List Nat)} (h : JurOk d m l) {fr : Nat} (ho : fr < m.fr ∨ m.to ≤ fr) : JurOk (clD d fr) m l := by
  have h3 := h.top
  exact jur_same h (cl_len _ _) fun i hi hj => cl_read d (by omega) (by omega)
theorem jur_crash {d : DiskM} {m : JurM} {l : List (List Nat)} (h : JurOk d m l) (hp : d.pen = []) (keep : List Nat) : JurOk (crashD d keep) m l := by
  have h3 := h.top
  exact jur_same h (crash_len _ _) fun i hi hj => crash_readJ hp keep (by omega)
end Go.Proofs.Ytccplgicfbfjiaa
