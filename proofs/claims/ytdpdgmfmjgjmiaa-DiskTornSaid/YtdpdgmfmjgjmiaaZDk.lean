/- Disks by lists: what each call answers and leaves; what stays true of them, act by act; texts filled up to a sector. -/
import Derived.Test.YtdpdgmfmjgjmiaaDisk
import Derived.Test.YtdpdgmfmjgjmiaaU16
import Derived.Test.YtdpdgmfmjgjmiaaG4
namespace Go.Proofs.Ytdpdgmfmjgjmiaa
open Go.RowKit
set_option linter.unusedVariables false

def inD (d : DiskM) (i : Int) : Prop := 0 ≤ i ∧ i < (d.sec.length : Int)
instance (d : DiskM) (i : Int) : Decidable (inD d i) := by unfold inD; exact inferInstance
def rdE (d : DiskM) (i : Int) : List Nat × Nat := if offD d then ([], 130) else if inD d i then (readD d i.toNat, 0) else ([], 131)
def wrE (d : DiskM) (i : Int) (n : Nat) : Nat := if ¬ inD d i then 131 else if n ≠ 32 then 1 else if offD d then 130 else 0
def wrD (d : DiskM) (i : Int) (s : List Nat) : DiskM := if wrE d i s.length = 0 then writeD d i.toNat s else d
def syE (d : DiskM) : Nat := if offD d then 130 else 0
def syD (d : DiskM) : DiskM := if offD d then d else syncD d
def sfD (d : DiskM) (i : Int) : List Nat := if inD d i then d.sec.getD i.toNat [] else []
/-- a pointer to a disk -/
def ptD (D : Nat) : Value := .pointer (some ⟨D, 0, none⟩)
/-- how many may be: of sectors, of what is pending, of power -/
structure DkB (d : DiskM) : Prop where
  ok : DiskOk d
  sec : d.sec.length ≤ 4096
  pen : d.pen.length ≤ 100000
  rest : -1000000 ≤ d.rest
  bys : (∀ s ∈ d.sec, Bys s) ∧ ∀ p ∈ d.pen, Bys p.2
/-! ### full -/
def fullT (s : ByteArray) : ByteArray := tx ((sl s ++ zerN 32).take 32)
theorem full_sl (s : ByteArray) : sl (fullT s) = (sl s ++ zerN 32).take 32 := sl_tx (((sl_bys s).app (Bys.of fun x hx => by rw [List.eq_of_mem_replicate hx]; decide)).take 32)
theorem full_len (s : ByteArray) : (sl (fullT s)).length = 32 := by
  rw [full_sl, List.length_take, List.length_append, zerN_len]
  omega
theorem full_size (s : ByteArray) : (fullT s).size = 32 := by rw [← sl_len]; exact full_len s
/-- a text of some bytes, held against none -/
theorem emp_no {t : ByteArray} (h : t.size ≠ 0) : t.toList.isEmpty = false := by
  rw [Go.ByteArray.toList_eq, List.isEmpty_eq_false_iff]
  intro e
  have : t.data.toList.length = 0 := by rw [e]; rfl
  exact h (by simpa using this)
/-- behind k acts -/
structure DkN (d : DiskM) (k : Nat) : Prop where
  ok : DiskOk d
  sec : d.sec.length ≤ 4096
  pen : d.pen.length ≤ k
  rest : -(k : Int) ≤ d.rest
  bys : (∀ s ∈ d.sec, Bys s) ∧ ∀ p ∈ d.pen, Bys p.2
theorem DkN.b {d : DiskM} {k : Nat} (h : DkN d k) (hk : k ≤ 100000) : DkB d := ⟨h.ok, h.sec, by have := h.pen; omega, by have := h.rest; omega, h.bys⟩
theorem DkN.more {d : DiskM} {k k' : Nat} (h : DkN d k) (hk : k ≤ k') : DkN d k' := ⟨h.ok, h.sec, by have := h.pen; omega, by have := h.rest; omega, h.bys⟩
theorem zer_bys (n : Nat) : Bys (zerN n) := Bys.of fun x hx => by rw [List.eq_of_mem_replicate hx]; decide
theorem dkn_new {n : Nat} (h : n ≤ 4096) : DkN (newD n) 0 := ⟨disk_new n, by simpa [newD] using h, Nat.le_refl _, by simp [newD], fun s hs => by rw [List.eq_of_mem_replicate hs]; exact zer_bys 32, fun p hp => by cases hp⟩
theorem getD_secB {d : DiskM} (h : ∀ s ∈ d.sec, Bys s) (i : Nat) : Bys (d.sec.getD i []) := by
  rw [List.getD_eq_getElem?_getD]
  cases hi : d.sec[i]? with
  | none => exact Bys.of fun x hx => by cases hx
  | some x => exact h x (List.mem_of_getElem? hi)
theorem read_bys {d : DiskM} (h : (∀ s ∈ d.sec, Bys s) ∧ ∀ p ∈ d.pen, Bys p.2) (i : Nat) : Bys (readD d i) := by
  unfold readD
  rcases last_mem (d.sec.getD i []) (penD d.pen i) with e | e
  · rw [e]; exact getD_secB h.1 i
  · exact h.2 _ (pen_mem e)
theorem torn_bys {old : List Nat} {l : List (List Nat)} {b : Nat} (h0 : Bys old) (hl : ∀ x ∈ l, Bys x) : Bys (tornS old l b) := by
  have hg : ∀ i, Bys (l.getD i []) := fun i => by
    rw [List.getD_eq_getElem?_getD]
    cases hi : l[i]? with
    | none => exact Bys.of fun x hx => by cases hx
    | some x => exact hl x (List.mem_of_getElem? hi)
  unfold tornS
  simp only
  have hw : Bys (if b / 4 % (l.length + 1) = 0 then old else l.getD (b / 4 % (l.length + 1) - 1) []) := by
    split
    · exact h0
    · exact hg _
  split
  · exact ((hg _).take _).app (hw.drop _)
  · exact hw
theorem dkn_write {d : DiskM} {k : Nat} (h : DkN d k) (i : Int) {s : List Nat} (hs : Bys s) : DkN (wrD d i s) (k + 1) := by
  unfold wrD
  split
  · rename_i he
    unfold wrE at he
    by_cases hi : inD d i
    · by_cases h32 : s.length = 32
      · have hlt : i.toNat < d.sec.length := by unfold inD at hi; omega
        refine ⟨disk_write h.ok hlt h32, h.sec, ?_, ?_, h.bys.1, fun p hp => ?_⟩
        · show (d.pen ++ [(i.toNat, s)]).length ≤ k + 1
          rw [List.length_append]; have := h.pen; simp; omega
        · show -((k + 1 : Nat) : Int) ≤ d.rest - 1
          have := h.rest; omega
        · rcases List.mem_append.1 hp with hp | hp
          · exact h.bys.2 p hp
          · rw [List.mem_singleton.1 hp]; exact hs
      · simp [hi, h32] at he
    · simp [hi] at he
  · exact h.more (by omega)
theorem dkn_sync {d : DiskM} {k : Nat} (h : DkN d k) : DkN (syD d) (k + 1) := by
  unfold syD
  split
  · exact h.more (by omega)
  · refine ⟨disk_sync h.ok, by rw [sync_len]; exact h.sec, Nat.zero_le _, by show -((k + 1 : Nat) : Int) ≤ d.rest - 1; have := h.rest; omega, fun s hs => ?_, fun p hp => by cases hp⟩
    obtain ⟨i, _, rfl⟩ := List.mem_map.1 hs
    exact read_bys h.bys i
theorem dkn_cut {d : DiskM} {k : Nat} (h : DkN d k) (a : Int) : DkN (cutD d a) k := ⟨⟨h.ok.sec, h.ok.pen⟩, h.sec, h.pen, by show -(k : Int) ≤ max a 0; omega, h.bys⟩
theorem dkn_crash {d : DiskM} {k : Nat} (h : DkN d k) (keep : List Nat) : DkN (crashD d keep) k := by
  refine ⟨disk_crash h.ok keep, by rw [crash_len]; exact h.sec, Nat.zero_le _, by show -(k : Int) ≤ 0; omega, fun s hs => ?_, fun p hp => by cases hp⟩
  obtain ⟨i, _, rfl⟩ := List.mem_map.1 hs
  unfold crashS
  split
  · exact getD_secB h.bys.1 i
  · exact torn_bys (getD_secB h.bys.1 i) fun x hx => h.bys.2 _ (pen_mem hx)
/-! ### sizes that stay -/
theorem wr_len (d : DiskM) (i : Int) (s : List Nat) : (wrD d i s).sec.length = d.sec.length := by unfold wrD; split <;> rfl
theorem sy_len (d : DiskM) : (syD d).sec.length = d.sec.length := by unfold syD; split; rfl; exact sync_len d
/-! ### while the power is on -/
theorem wr_on {d : DiskM} {i : Nat} {s : List Nat} (hi : i < d.sec.length) (hs : s.length = 32) (ho : offD d = false) : wrE d (i : Int) s.length = 0 ∧ wrD d (i : Int) s = writeD d i s := by
  have h1 : inD d (i : Int) := by unfold inD; omega
  have h2 : wrE d (i : Int) s.length = 0 := by unfold wrE; rw [if_neg (by simpa using h1), if_neg (by simpa using hs), ho]; rfl
  refine ⟨h2, ?_⟩
  unfold wrD
  rw [if_pos h2, Int.toNat_natCast]
theorem sy_on {d : DiskM} (ho : offD d = false) : syE d = 0 ∧ syD d = syncD d := by unfold syE syD; rw [ho]; exact ⟨rfl, rfl⟩
theorem rd_on {d : DiskM} {i : Nat} (hi : i < d.sec.length) (ho : offD d = false) : rdE d (i : Int) = (readD d i, 0) := by
  have h1 : inD d (i : Int) := by unfold inD; omega
  unfold rdE
  rw [ho, if_neg (by decide), if_pos h1, Int.toNat_natCast]
theorem sf_in {d : DiskM} {i : Nat} (hi : i < d.sec.length) : sfD d (i : Int) = d.sec.getD i [] := by
  have h1 : inD d (i : Int) := by unfold inD; omega
  unfold sfD
  rw [if_pos h1, Int.toNat_natCast]
theorem off_write {d : DiskM} (h : d.cut = false) (i : Nat) (s : List Nat) : offD (writeD d i s) = false := by unfold offD writeD; simp [h]
theorem off_sync {d : DiskM} (h : d.cut = false) : offD (syncD d) = false := by unfold offD syncD; simp [h]
theorem wf_small (i : Nat) (h : i ≤ 100000) : (Lit.int .i64 (i : Int)).wf = true := by
  have e1 : IntKind.i64.min = -9223372036854775808 := by decide
  have e2 : IntKind.i64.max = 9223372036854775807 := by decide
  simp only [Lit.wf, e1, e2, Bool.and_eq_true, decide_eq_true_eq]
  omega
end Go.Proofs.Ytdpdgmfmjgjmiaa
