/- The program's disk keeps all that the laws of stage 13 ask of it. -/
import Derived.Test.YtdpdgmfmjgjmiaaZKit
import Derived.Test.YtdpdgmfmjgjmiaaZCrw
namespace Go.Proofs.Ytdpdgmfmjgjmiaa
open Go.RowKit
set_option linter.unusedVariables false

variable {w : World} {base D S M k : Nat} {E : DataW Unit} {V : Nat → Value} {q : Option (Nat × Int)} {d : DiskM}
/-- a block of bytes is none of a disk's -/
theorem DkW.notU8 (h : DkW w base D S M k E V q d) {b : Nat} {vs : List Value} (hb : Blk w b 5 vs) : ¬ foot D S M V q b := by
  have hb' := hb
  unfold Blk at hb'
  rintro (rfl | rfl | rfl | e | ⟨j, e⟩)
  · have h1 := h.blk
    unfold Blk at h1
    rw [hb'] at h1
    simp at h1
  · have h1 := h.sec
    unfold Blk at h1
    rw [hb'] at h1
    simp at h1
  · obtain ⟨es, clock, hm, _⟩ := h.pen.map
    rw [hb'] at hm
    simp at hm
  · obtain ⟨⟨L, l⟩, e1, e2⟩ := Option.map_eq_some_iff.1 e
    obtain rfl : L = b := e2
    have h1 := (h.left _ _ e1).1
    unfold Blk at h1
    rw [hb'] at h1
    simp at h1
  · exact (h.own j).ne hb (by decide) b e rfl
theorem DkW.notOld (h : DkW w base D S M k E V q d) {b : Nat} (hb : b < base) : ¬ foot D S M V q b := fun hf => by
  have := (h.lt b hf).1
  omega
def theKit : DiskKit where
  Rep := fun base w D d => ∃ F, DkF base w D d F
  keep := fun ⟨F, h⟩ hb => ⟨F, h.keep fun i hi => hb.block i (h.lt i hi).2⟩
  lt := fun ⟨F, h⟩ => h.lt _ h.ptr
  new_no := fun n w hn => (d_New_no n w hn).mono fun _ _ ⟨e, e2⟩ => ⟨e, e2 ▸ Below.refl _ _⟩
  new_yes := fun n w base h1 h2 hb => (d_New_yes n w base h1 h2 hb).mono fun _ _ ⟨D, F, e, h, hB, _⟩ => ⟨D, e, ⟨F, h⟩, hB⟩
  write := fun ⟨F, S, M, k, E, V, q, h, _⟩ hb hw i hi s hs e d' he hd => (d_Write h hb i hi s e d' he hd).mono fun _ _ ⟨e, k', E', V', q', h', t⟩ => ⟨e, ⟨_, _, _, _, _, _, _, h', rfl⟩, t.b⟩
  sync := fun ⟨F, S, M, k, E, V, q, h, _⟩ hb hw e d' he hd => (d_Sync h hb e d' he hd).mono fun _ _ ⟨e, k', E', V', q', h', t⟩ => ⟨e, ⟨_, _, _, _, _, _, _, h', rfl⟩, t.b⟩
  read_ := fun ⟨F, S, M, k, E, V, q, h, _⟩ hb hw i hi s e he => (d_Read h hb i hi s e he).mono fun _ _ ⟨e, h', t⟩ => ⟨e, ⟨_, _, _, _, _, _, _, h', rfl⟩, t.b⟩
  safe := fun ⟨F, S, M, k, E, V, q, h, _⟩ hb hw i hi s he => (d_Safe h hb i hi s he).mono fun _ _ ⟨e, hB⟩ => ⟨e, ⟨_, _, _, _, _, _, _, h.below hB, rfl⟩, hB.mono hw⟩
  sectors := fun ⟨F, S, M, k, E, V, q, h, _⟩ hb hw => (d_Sectors h).mono fun _ _ ⟨e, e2⟩ => ⟨e, ⟨_, _, _, _, _, _, _, e2 ▸ h, rfl⟩, e2 ▸ Below.refl _ _⟩
  off := fun ⟨F, S, M, k, E, V, q, h, _⟩ hb hw after hi => (d_Off h after hi).mono fun _ _ ⟨e, q', h', t⟩ => ⟨e, ⟨_, _, _, _, _, _, _, h', rfl⟩, t.b⟩
  crash := fun ⟨F, S, M, k, E, V, q, h, _⟩ hb hw keep p c hk hy hS hka d' hd => (d_Crash h hb keep p c hk hy hS (fun hn a e => (hka hn a e).elim (fun hl => h.notOld hl) (fun ⟨vs, hv⟩ => h.notU8 hv)) d' hd).mono
    fun _ _ ⟨e, k', E', V', q', h', t⟩ => ⟨e, ⟨_, _, _, _, _, _, _, h', rfl⟩, t.b⟩
end Go.Proofs.Ytdpdgmfmjgjmiaa
