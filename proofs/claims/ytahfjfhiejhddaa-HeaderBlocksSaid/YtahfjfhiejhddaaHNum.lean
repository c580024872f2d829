/- Versions: whether they may be, their bytes, and back; plain facts. -/
import Derived.Test.YtahfjfhiejhddaaCod
import Derived.Test.YtahfjfhiejhddaaFA
namespace Go.Proofs.Ytahfjfhiejhddaa
set_option linter.unusedVariables false

/-- a version as it is read: its number, its blocks' names, its files' names and sizes -/
structure VerH where
  id : Nat
  blocks : List (List Nat)
  files : List (List Nat × Nat)
/-- how many blocks so many bytes are -/
def blkN (n : Nat) : Nat := (n + 255) / 256
def sumF (l : List Nat) : Nat := l.foldr (· + ·) 0
theorem sumF_app (a b : List Nat) : sumF (a ++ b) = sumF a + sumF b := by
  induction a with
  | nil => simp [sumF]
  | cons x a ih => unfold sumF at ih ⊢; simp only [List.cons_append, List.foldr_cons]; rw [ih]; omega
theorem sumF_le {l : List Nat} {n : Nat} (h : ∀ x ∈ l, x ≤ n) : sumF l ≤ n * l.length := by
  induction l with
  | nil => simp [sumF]
  | cons x l ih =>
    have h1 := h x (by simp)
    have h2 := ih fun y hy => h y (by simp [hy])
    unfold sumF at h2 ⊢
    rw [List.foldr_cons, List.length_cons, Nat.mul_add]
    omega
/-- what a size counts -/
def cntS (z : Int) : Nat := if 0 ≤ z ∧ z ≤ 300 then z.toNat else 0
def blocksH (zs : List Int) : Nat := blkN (sumF (zs.map cntS))
/-- do names rise? -/
def risesN (l : List (List Nat)) : Bool := risesF (l.map fun n => (n, []))
/-- may such names, sizes and so many blocks be? -/
def mayH (nb : Nat) (ns : List (List Nat)) (zs : List Int) : Bool :=
  decide (ns.length ≤ 12) && decide (ns.length = zs.length) && ns.all (fun n => decide (0 < n.length) && decide (n.length ≤ 20)) && zs.all (fun z => decide (0 ≤ z) && decide (z ≤ 300)) && risesN ns && decide (nb = blocksH zs)
theorem mayH_iff {nb : Nat} {ns : List (List Nat)} {zs : List Int} : mayH nb ns zs = true ↔ ns.length ≤ 12 ∧ ns.length = zs.length ∧ (∀ n ∈ ns, 0 < n.length ∧ n.length ≤ 20) ∧ (∀ z ∈ zs, 0 ≤ z ∧ z ≤ 300) ∧ risesN ns = true ∧ nb = blocksH zs := by
  unfold mayH
  simp only [Bool.and_eq_true, decide_eq_true_eq, List.all_eq_true, and_assoc]
theorem blocks_le {nb : Nat} {ns : List (List Nat)} {zs : List Int} (h : mayH nb ns zs = true) : nb ≤ 15 := by
  obtain ⟨h1, h2, _, h4, _, h6⟩ := mayH_iff.1 h
  have h7 := sumF_le (l := zs.map cntS) (n := 300) fun x hx => by
    obtain ⟨z, hz, rfl⟩ := List.mem_map.1 hx
    unfold cntS
    split <;> omega
  rw [List.length_map] at h7
  rw [h6]
  unfold blocksH blkN
  omega
def VerH.names (v : VerH) : List (List Nat) := v.files.map (·.1)
def VerH.sizes (v : VerH) : List Int := v.files.map fun f => (f.2 : Int)
def VerH.may (v : VerH) : Bool := mayH v.blocks.length v.names v.sizes
/-! ### bytes -/
def fileE (f : List Nat × Nat) : List Nat := (putL f.1.length ++ f.1) ++ putL f.2
def verE (v : VerH) : List Nat := bigL v.id 4 ++ ((putL v.blocks.length ++ v.blocks.flatMap id) ++ (putL v.files.length ++ v.files.flatMap fileE))
def fileP : List Nat → Except Nat ((List Nat × Nat) × List Nat) := pairP textP (guardP getP (fun n => decide (n ≤ 300)) 111)
def FileOk (f : List Nat × Nat) : Prop := (f.1.length < 18446744073709551616 ∧ Bys f.1) ∧ f.2 ≤ 300
theorem file_codes : Codes fileP fileE FileOk :=
  (pair_codes text_codes (guard_codes get_codes (fun n => decide (n ≤ 300)) 111)).only fun f => ⟨fun h => ⟨h.1, of_decide_eq_true h.2.2⟩, fun h => ⟨h.1, by have := h.2; omega, decide_eq_true h.2⟩⟩
/-- the parts of a version, read -/
def partsP : List Nat → Except Nat ((Nat × (List (List Nat) × List (List Nat × Nat))) × List Nat) := pairP (fixP 4) (pairP (countP (rawP 32) 16 111) (countP fileP 12 111))
def verP (s : List Nat) : Except Nat (VerH × List Nat) :=
  match partsP s with
  | .error e => .error e
  | .ok (x, r) => if VerH.may ⟨x.1, x.2.1, x.2.2⟩ then .ok (⟨x.1, x.2.1, x.2.2⟩, r) else .error 1
def VerOk (v : VerH) : Prop := v.id < 4294967296 ∧ (∀ b ∈ v.blocks, b.length = 32 ∧ Bys b) ∧ (∀ f ∈ v.files, Bys f.1) ∧ v.may = true
theorem parts_codes : Codes partsP (fun z => bigL z.1 4 ++ ((putL z.2.1.length ++ z.2.1.flatMap id) ++ (putL z.2.2.length ++ z.2.2.flatMap fileE)))
    (fun z => z.1 < 2 ^ (8 * 4) ∧ (z.2.1.length ≤ 16 ∧ ∀ b ∈ z.2.1, b.length = 32 ∧ Bys b) ∧ (z.2.2.length ≤ 12 ∧ ∀ f ∈ z.2.2, FileOk f)) :=
  pair_codes (fix_codes 4) (pair_codes (count_codes (raw_codes 32) 16 111 (by decide)) (count_codes file_codes 12 111 (by decide)))
theorem ver_ok {v : VerH} (h : VerOk v) : v.id < 2 ^ (8 * 4) ∧ (v.blocks.length ≤ 16 ∧ ∀ b ∈ v.blocks, b.length = 32 ∧ Bys b) ∧ (v.files.length ≤ 12 ∧ ∀ f ∈ v.files, FileOk f) := by
  obtain ⟨h1, h2, h3, h4⟩ := h
  have hb := blocks_le h4
  obtain ⟨m1, m2, m3, m4, _⟩ := mayH_iff.1 h4
  refine ⟨h1, ⟨by omega, h2⟩, ⟨by unfold VerH.names at m1; rw [List.length_map] at m1; exact m1, fun f hf => ⟨⟨?_, h3 f hf⟩, ?_⟩⟩⟩
  · have := m3 f.1 (List.mem_map.2 ⟨f, hf, rfl⟩)
    omega
  · have := m4 (f.2 : Int) (List.mem_map.2 ⟨f, hf, rfl⟩)
    omega
/-- versions are read as they were written, and in no other way -/
theorem ver_codes : Codes verP verE VerOk where
  back := fun v r h => by
    unfold verP
    have := parts_codes.back (v.id, v.blocks, v.files) r (ver_ok h)
    unfold verE
    simp only at this
    rw [this]
    simp only
    rw [if_pos h.2.2.2]
  cut := fun v j h hj => by
    unfold verP
    have := parts_codes.cut (v.id, v.blocks, v.files) j (ver_ok h) hj
    unfold verE
    simp only at this
    rw [this]
  from_ := fun s v r hs e => by
    unfold verP at e
    cases e1 : partsP s with
    | error er => rw [e1] at e; cases e
    | ok z =>
      obtain ⟨y, t⟩ := z
      rw [e1] at e
      simp only at e
      split at e
      · rename_i hm
        simp only [Except.ok.injEq, Prod.mk.injEq] at e
        obtain ⟨rfl, rfl⟩ := e
        have h1 := parts_codes.from_ s y t hs e1
        refine ⟨⟨by have := h1.1.1; omega, h1.1.2.1.2, fun f hf => (h1.1.2.2.2 f hf).1.2, hm⟩, h1.2⟩
      · cases e
  bys := fun v h => parts_codes.bys (v.id, v.blocks, v.files) (ver_ok h)
/-! ### sizes -/
theorem put_len_small {n : Nat} (h : n < 128) : (putL n).length = 1 := by rw [put_small h]; rfl
theorem put_len_two {n : Nat} (h1 : ¬ n < 128) (h2 : n < 16384) : (putL n).length = 2 := by
  rw [put_big h1 (by omega), List.length_cons, put_len_small (by omega)]
def fileZ (f : List Nat × Nat) : Nat := 1 + f.1.length + (if f.2 < 128 then 1 else 2)
theorem fileE_len {f : List Nat × Nat} (h1 : f.1.length ≤ 20) (h2 : f.2 ≤ 300) : (fileE f).length = fileZ f := by
  unfold fileE fileZ
  rw [List.length_append, List.length_append, put_len_small (by omega)]
  split
  · rename_i h; rw [put_len_small h]
  · rename_i h; rw [put_len_two h (by omega)]
theorem raws_len {l : List (List Nat)} (h : ∀ b ∈ l, b.length = 32) : (l.flatMap id).length = 32 * l.length := by
  induction l with
  | nil => rfl
  | cons x l ih =>
    rw [List.flatMap_cons, List.length_append, ih fun b hb => h b (by simp [hb]), List.length_cons]
    have := h x (by simp)
    simp only [id_eq]
    omega
theorem files_len {l : List (List Nat × Nat)} (h : ∀ f ∈ l, f.1.length ≤ 20 ∧ f.2 ≤ 300) : (l.flatMap fileE).length = sumF (l.map fileZ) := by
  induction l with
  | nil => rfl
  | cons x l ih =>
    have h1 := h x (by simp)
    rw [List.flatMap_cons, List.length_append, ih fun b hb => h b (by simp [hb]), fileE_len h1.1 h1.2]
    rfl
theorem ver_len {v : VerH} (h : VerOk v) : (verE v).length = 4 + 1 + 32 * v.blocks.length + 1 + sumF (v.files.map fileZ) := by
  have hb := blocks_le h.2.2.2
  have hk := ver_ok h
  obtain ⟨m1, m2, m3, m4, _⟩ := mayH_iff.1 h.2.2.2
  unfold verE
  rw [List.length_append, List.length_append, List.length_append, List.length_append, big_len, put_len_small (by omega), put_len_small (by have := hk.2.2.1; omega), raws_len fun b hb => (h.2.1 b hb).1, files_len fun f hf => ⟨(m3 f.1 (List.mem_map.2 ⟨f, hf, rfl⟩)).2, (hk.2.2.2 f hf).2⟩]
  omega
end Go.Proofs.Ytahfjfhiejhddaa
