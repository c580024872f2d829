/- Two slots on a disk by lists: what stays true of them, act by act (stage 16). -/
import Derived.Test.YtccplgicfbfjiaaYNum
import Derived.Test.YtccplgicfbfjiaaSlots
namespace Go.Proofs.Ytccplgicfbfjiaa
open Go.RowKit
set_option linter.unusedVariables false

/-- what is loaded of two slots of k sectors from fr on -/
def slLoad (d : DiskM) (fr k : Nat) : Option (Nat × List Nat) := loadL (areaD d fr k) (areaD d (fr + k) k)
def slNext (d : DiskM) (fr k : Nat) : Nat := nextSl (areaD d fr k) (areaD d (fr + k) k)
def slAt (d : DiskM) (fr k : Nat) : Nat := if slNext d fr k % 2 = 1 then fr + k else fr
/-- how many bytes a text may have -/
def slSize (k : Nat) : Nat := min (32 * k - 14) 1016
def svD (d : DiskM) (fr k : Nat) (s : List Nat) : DiskM :=
  if s.length ≤ slSize k then syncD (writesD d (slAt d fr k) (chunksK (secK (8 + s.length)) (padK (slotL (slNext d fr k) s)))) else d
def svE (k n : Nat) : Nat := if n ≤ slSize k then 0 else 90
/-- two slots that may be there: n: the number of what is loaded (0: nothing) -/
structure SlOk (d : DiskM) (fr k n : Nat) (s : List Nat) : Prop where
  ok : SlotsOk (areaD d fr k) (areaD d (fr + k) k)
  load : slLoad d fr k = if n = 0 then none else some (n, s)
  top : fr + 2 * k ≤ d.sec.length
theorem SlOk.next {d : DiskM} {fr k n : Nat} {s : List Nat} (h : SlOk d fr k n s) : slNext d fr k = n + 1 := by
  have hl := h.load
  unfold slLoad at hl
  unfold slNext nextSl
  rw [hl]
  by_cases h0 : n = 0
  · rw [if_pos h0, h0]
  · rw [if_neg h0]
theorem sl_same {d d' : DiskM} {fr k n : Nat} {s : List Nat} (h : SlOk d fr k n s) (hl : d'.sec.length = d.sec.length) (hr : ∀ i, fr ≤ i → i < fr + 2 * k → readD d' i = readD d i) : SlOk d' fr k n s := by
  have e1 : areaD d' fr k = areaD d fr k := area_same fun i hi => hr _ (by omega) (by omega)
  have e2 : areaD d' (fr + k) k = areaD d (fr + k) k := area_same fun i hi => hr _ (by omega) (by omega)
  refine ⟨by rw [e1, e2]; exact h.ok, ?_, by rw [hl]; exact h.top⟩
  unfold slLoad
  rw [e1, e2]
  exact h.load
theorem sl_crash {d : DiskM} {fr k n : Nat} {s : List Nat} (h : SlOk d fr k n s) (hp : d.pen = []) (keep : List Nat) : SlOk (crashD d keep) fr k n s := by
  have := h.top
  exact sl_same h (crash_len _ _) fun i hi hj => crash_readJ hp keep (by omega)
theorem zero_slot {d : DiskM} {a n : Nat} (h : ∀ i, i < n → readD d (a + i) = zerN 32) : slotF (areaD d a n) = none := by
  have := zero_area h
  unfold slotF
  rw [if_neg fun hc => this hc.1]
theorem sl_new {m fr k : Nat} (ht : fr + 2 * k ≤ m) : SlOk (newD m) fr k 0 [] := by
  have ha : slotF (areaD (newD m) fr k) = none := zero_slot fun i hi => read_new (by omega)
  have hb : slotF (areaD (newD m) (fr + k) k) = none := zero_slot fun i hi => read_new (by omega)
  refine ⟨slots_ok ha hb, ?_, by simpa [newD] using ht⟩
  unfold slLoad loadL
  rw [ha, hb]
  rfl
theorem size_le {k l : Nat} (h : l ≤ slSize k) (hk : 0 < k) : secK (8 + l) ≤ k ∧ l ≤ 1016 := by unfold slSize at h; unfold secK; omega
theorem sv_len (d : DiskM) (fr k : Nat) (s : List Nat) : (svD d fr k s).sec.length = d.sec.length := by
  unfold svD
  split
  · rw [sync_len, writes_sec]
  · rfl
theorem at_le (d : DiskM) (fr k : Nat) : fr ≤ slAt d fr k ∧ slAt d fr k ≤ fr + k := by unfold slAt; split <;> omega
theorem sv_read (d : DiskM) {fr k : Nat} (hk : 0 < k) (s : List Nat) {i : Nat} (hi : i < d.sec.length) (ho : i < slAt d fr k ∨ slAt d fr k + k ≤ i) : readD (svD d fr k s) i = readD d i := by
  unfold svD
  split
  · rename_i hs
    have := size_le hs hk
    rw [sync_read (by rw [writes_sec]; exact hi), writes_out _ _ _ _ (by rw [chunks_len]; omega)]
  · rfl
theorem sv_area {d : DiskM} {fr k n : Nat} {s : List Nat} (hk : 0 < k) (htop : fr + 2 * k ≤ d.sec.length) (hn : slNext d fr k < 2 ^ 64) (hs : Bys s) (hl : s.length ≤ slSize k) : slotF (areaD (svD d fr k s) (slAt d fr k) k) = some (slNext d fr k, s) := by
  obtain ⟨h1, h2⟩ := size_le hl hk
  have h3 := at_le d fr k
  have e : svD d fr k s = syncD (writesD d (slAt d fr k) (chunksK (secK (8 + s.length)) (padK (slotL (slNext d fr k) s)))) := by unfold svD; rw [if_pos hl]
  rw [e, sync_area (by rw [writes_sec]; omega)]
  generalize slAt d fr k = a
  have hsl := slotL_len (slNext d fr k) s
  have hw := area_writes d a (chunksK (secK (8 + s.length)) (padK (slotL (slNext d fr k) s)))
  rw [chunks_len, chunks_join _ _ (by rw [pad_len, hsl])] at hw
  have ek : k = secK (8 + s.length) + (k - secK (8 + s.length)) := by omega
  rw [ek, area_split, ← ek, hw]
  exact slot_pad hn hs h2 _
theorem sl_save {d : DiskM} {fr k n : Nat} {s0 : List Nat} (h : SlOk d fr k n s0) (hk : 0 < k) (hn : n + 1 < 2 ^ 64) {s : List Nat} (hs : Bys s) (hl : s.length ≤ slSize k) : SlOk (svD d fr k s) fr k (n + 1) s := by
  have hx := h.next
  have ht := h.top
  have ha := sv_area (n := n) hk ht (by rw [hx]; exact hn) hs hl
  refine ⟨?_, ?_, by rw [sv_len]; exact ht⟩
  all_goals
    by_cases ho : slNext d fr k % 2 = 1
    · have hat : slAt d fr k = fr + k := by unfold slAt; rw [if_pos ho]
      have e1 : areaD (svD d fr k s) fr k = areaD d fr k := area_same fun i hi => sv_read d hk s (by omega) (by rw [hat]; omega)
      rw [hat] at ha
      have := save_high h.ok ho ha
      first
        | (rw [e1]; exact this.2)
        | (unfold slLoad; rw [e1, if_neg (by omega), ← hx]; exact this.1)
    · have ho' : slNext d fr k % 2 = 0 := by omega
      have hat : slAt d fr k = fr := by unfold slAt; rw [if_neg ho]
      have e1 : areaD (svD d fr k s) (fr + k) k = areaD d (fr + k) k := area_same fun i hi => sv_read d hk s (by omega) (by rw [hat]; omega)
      rw [hat] at ha
      have := save_low h.ok ho' ha
      first
        | (rw [e1]; exact this.2)
        | (unfold slLoad; rw [e1, if_neg (by omega), ← hx]; exact this.1)
theorem dkj_save {d : DiskM} {q : Nat} (h : DkJ d q) {fr k : Nat} (hk : 0 < k) (htop : fr + 2 * k ≤ d.sec.length) {s : List Nat} (hs : Bys s) : DkJ (svD d fr k s) (q + 36) := by
  have h3 := at_le d fr k
  unfold svD
  split
  · rename_i hl
    obtain ⟨h1, h2⟩ := size_le hl hk
    have hsl := slotL_len (slNext d fr k) s
    have hw := dkn_writes (chunksK (secK (8 + s.length)) (padK (slotL (slNext d fr k) s))) (i := slAt d fr k) h.n (by rw [chunks_len]; omega) fun t ht => ⟨chunks_each _ _ (by rw [pad_len, hsl]) t ht, chunks_bys _ (pad_bys (slotL_bys _ hs)) t ht⟩
    rw [chunks_len] at hw
    have h33 := sec_le (n := 8 + s.length) (by omega)
    refine ⟨(dkn_sync1 hw).more (by omega), rfl, ?_⟩
    show (writesD _ _ _).cut = false
    rw [writes_cut, h.cut]
  · exact h.more (by omega)
end Go.Proofs.Ytccplgicfbfjiaa
