/- Versions: whether they may be, their bytes, and back; plain facts. -/
import Derived.Test.YtloogjdojojehaaCod
import Derived.Test.YtloogjdojojehaaFA
import Derived.Test.YtloogjdojojehaaFB
import Derived.Test.YtloogjdojojehaaDByt
import Derived.Test.YtloogjdojojehaaG2
import Derived.Lib.SmallJoins
import Derived.Deep.Slices
import Derived.Deep.Fields
import Derived.Test.YtloogjdojojehaaV2
import Derived.Test.YtloogjdojojehaaG4
namespace Go.Proofs.Ytloogjdojojehaa
set_option linter.unusedVariables false

/-- a version as it is read: its number, its blocks' names, its files' names and sizes -/
structure VerH where
  id : Nat
  blocks : List (List Nat)
  files : List (List Nat × Nat)
/-- how many blocks so many bytes are -/
def blkN (n : Nat) : Nat := (n + 255) / 256
def sumF (l : List Nat) : Nat := l.foldr (· + ·) 0
theorem sumF_app (a b : List Nat) : sumF (a ++ b) = sumF a + sumF b := by
  induction a with
  | nil => simp [sumF]
  | cons x a ih => unfold sumF at ih ⊢; simp only [List.cons_append, List.foldr_cons]; rw [ih]; omega
theorem sumF_le {l : List Nat} {n : Nat} (h : ∀ x ∈ l, x ≤ n) : sumF l ≤ n * l.length := by
  induction l with
  | nil => simp [sumF]
  | cons x l ih =>
    have h1 := h x (by simp)
    have h2 := ih fun y hy => h y (by simp [hy])
    unfold sumF at h2 ⊢
    rw [List.foldr_cons, List.length_cons, Nat.mul_add]
    omega
/-- what a size counts -/
def cntS (z : Int) : Nat := if 0 ≤ z ∧ z ≤ 300 then z.toNat else 0
def blocksH (zs : List Int) : Nat := blkN (sumF (zs.map cntS))
/-- do names rise? -/
def risesN (l : List (List Nat)) : Bool := risesF (l.map fun n => (n, []))
/-- may such names, sizes and so many blocks be? -/
def mayH (nb : Nat) (ns : List (List Nat)) (zs : List Int) : Bool :=
  decide (ns.length ≤ 12) && decide (ns.length = zs.length) && ns.all (fun n => decide (0 < n.length) && decide (n.length ≤ 20)) && zs.all (fun z => decide (0 ≤ z) && decide (z ≤ 300)) && risesN ns && decide (nb = blocksH zs)
theorem mayH_iff {nb : Nat} {ns : List (List Nat)} {zs : List Int} : mayH nb ns zs = true ↔ ns.length ≤ 12 ∧ ns.length = zs.length ∧ (∀ n ∈ ns, 0 < n.length ∧ n.length ≤ 20) ∧ (∀ z ∈ zs, 0 ≤ z ∧ z ≤ 300) ∧ risesN ns = true ∧ nb = blocksH zs := by
  unfold mayH
  simp only [Bool.and_eq_true, decide_eq_true_eq, List.all_eq_true, and_assoc]
theorem blocks_le {nb : Nat} {ns : List (List Nat)} {zs : List Int} (h : mayH nb ns zs = true) : nb ≤ 15 := by
  obtain ⟨h1, h2, _, h4, _, h6⟩ := mayH_iff.1 h
  have h7 := sumF_le (l := zs.map cntS) (n := 300) fun x hx => by
    obtain ⟨z, hz, rfl⟩ := List.mem_map.1 hx
    unfold cntS
    split <;> omega
  rw [List.length_map] at h7
  rw [h6]
  unfold blocksH blkN
  omega
def VerH.names (v : VerH) : List (List Nat) := v.files.map (·.1)
def VerH.sizes (v : VerH) : List Int := v.files.map fun f => (f.2 : Int)
def VerH.may (v : VerH) : Bool := mayH v.blocks.length v.names v.sizes
/-! ### bytes -/
def fileE (f : List Nat × Nat) : List Nat := (putL f.1.length ++ f.1) ++ putL f.2
def verE (v : VerH) : List Nat := bigL v.id 4 ++ ((putL v.blocks.length ++ v.blocks.flatMap id) ++ (putL v.files.length ++ v.files.flatMap fileE))
def fileP : List Nat → Except Nat ((List Nat × Nat) × List Nat) := pairP textP (guardP getP (fun n => decide (n ≤ 300)) 111)
def FileOk (f : List Nat × Nat) : Prop := (f.1.length < 18446744073709551616 ∧ Bys f.1) ∧ f.2 ≤ 300
theorem file_codes : Codes fileP fileE FileOk :=
  (pair_codes text_codes (guard_codes get_codes (fun n => decide (n ≤ 300)) 111)).only fun f => ⟨fun h => ⟨h.1, of_decide_eq_true h.2.2⟩, fun h => ⟨h.1, by have := h.2; omega, decide_eq_true h.2⟩⟩
/-- the parts of a version, read -/
def partsP : List Nat → Except Nat ((Nat × (List (List Nat) × List (List Nat × Nat))) × List Nat) := pairP (fixP 4) (pairP (countP (rawP 32) 16 111) (countP fileP 12 111))
def verP (s : List Nat) : Except Nat (VerH × List Nat) :=
  match partsP s with
  | .error e => .error e
  | .ok (x, r) => if VerH.may ⟨x.1, x.2.1, x.2.2⟩ then .ok (⟨x.1, x.2.1, x.2.2⟩, r) else .error 1
def VerOk (v : VerH) : Prop := v.id < 4294967296 ∧ (∀ b ∈ v.blocks, b.length = 32 ∧ Bys b) ∧ (∀ f ∈ v.files, Bys f.1) ∧ v.may = true
theorem parts_codes : Codes partsP (fun z => bigL z.1 4 ++ ((putL z.2.1.length ++ z.2.1.flatMap id) ++ (putL z.2.2.length ++ z.2.2.flatMap fileE)))
    (fun z => z.1 < 2 ^ (8 * 4) ∧ (z.2.1.length ≤ 16 ∧ ∀ b ∈ z.2.1, b.length = 32 ∧ Bys b) ∧ (z.2.2.length ≤ 12 ∧ ∀ f ∈ z.2.2, FileOk f)) :=
  pair_codes (fix_codes 4) (pair_codes (count_codes (raw_codes 32) 16 111 (by decide)) (count_codes file_codes 12 111 (by decide)))
theorem ver_ok {v : VerH} (h : VerOk v) : v.id < 2 ^ (8 * 4) ∧ (v.blocks.length ≤ 16 ∧ ∀ b ∈ v.blocks, b.length = 32 ∧ Bys b) ∧ (v.files.length ≤ 12 ∧ ∀ f ∈ v.files, FileOk f) := by
  obtain ⟨h1, h2, h3, h4⟩ := h
  have hb := blocks_le h4
  obtain ⟨m1, m2, m3, m4, _⟩ := mayH_iff.1 h4
  refine ⟨h1, ⟨by omega, h2⟩, ⟨by unfold VerH.names at m1; rw [List.length_map] at m1; exact m1, fun f hf => ⟨⟨?_, h3 f hf⟩, ?_⟩⟩⟩
  · have := m3 f.1 (List.mem_map.2 ⟨f, hf, rfl⟩)
    omega
  · have := m4 (f.2 : Int) (List.mem_map.2 ⟨f, hf, rfl⟩)
    omega
/-- versions are read as they were written, and in no other way -/
theorem ver_codes : Codes verP verE VerOk where
  back := fun v r h => by
    unfold verP
    have := parts_codes.back (v.id, v.blocks, v.files) r (ver_ok h)
    unfold verE
    simp only at this
    rw [this]
    simp only
    rw [if_pos h.2.2.2]
  cut := fun v j h hj => by
    unfold verP
    have := parts_codes.cut (v.id, v.blocks, v.files) j (ver_ok h) hj
    unfold verE
    simp only at this
    rw [this]
  from_ := fun s v r hs e => by
    unfold verP at e
    cases e1 : partsP s with
    | error er => rw [e1] at e; cases e
    | ok z =>
      obtain ⟨y, t⟩ := z
      rw [e1] at e
      simp only at e
      split at e
      · rename_i hm
        simp only [Except.ok.injEq, Prod.mk.injEq] at e
        obtain ⟨rfl, rfl⟩ := e
        have h1 := parts_codes.from_ s y t hs e1
        refine ⟨⟨by have := h1.1.1; omega, h1.1.2.1.2, fun f hf => (h1.1.2.2.2 f hf).1.2, hm⟩, h1.2⟩
      · cases e
  bys := fun v h => parts_codes.bys (v.id, v.blocks, v.files) (ver_ok h)
/-! ### sizes -/
theorem put_len_small {n : Nat} (h : n < 128) : (putL n).length = 1 := by rw [put_small h]; rfl
theorem put_len_two {n : Nat} (h1 : ¬ n < 128) (h2 : n < 16384) : (putL n).length = 2 := by
  rw [put_big h1 (by omega), List.length_cons, put_len_small (by omega)]
def fileZ (f : List Nat × Nat) : Nat := 1 + f.1.length + (if f.2 < 128 then 1 else 2)
theorem fileE_len {f : List Nat × Nat} (h1 : f.1.length ≤ 20) (h2 : f.2 ≤ 300) : (fileE f).length = fileZ f := by
  unfold fileE fileZ
  rw [List.length_append, List.length_append, put_len_small (by omega)]
  split
  · rename_i h; rw [put_len_small h]
  · rename_i h; rw [put_len_two h (by omega)]
theorem raws_len {l : List (List Nat)} (h : ∀ b ∈ l, b.length = 32) : (l.flatMap id).length = 32 * l.length := by
  induction l with
  | nil => rfl
  | cons x l ih =>
    rw [List.flatMap_cons, List.length_append, ih fun b hb => h b (by simp [hb]), List.length_cons]
    have := h x (by simp)
    simp only [id_eq]
    omega
theorem files_len {l : List (List Nat × Nat)} (h : ∀ f ∈ l, f.1.length ≤ 20 ∧ f.2 ≤ 300) : (l.flatMap fileE).length = sumF (l.map fileZ) := by
  induction l with
  | nil => rfl
  | cons x l ih =>
    have h1 := h x (by simp)
    rw [List.flatMap_cons, List.length_append, ih fun b hb => h b (by simp [hb]), fileE_len h1.1 h1.2]
    rfl
theorem ver_len {v : VerH} (h : VerOk v) : (verE v).length = 4 + 1 + 32 * v.blocks.length + 1 + sumF (v.files.map fileZ) := by
  have hb := blocks_le h.2.2.2
  have hk := ver_ok h
  obtain ⟨m1, m2, m3, m4, _⟩ := mayH_iff.1 h.2.2.2
  unfold verE
  rw [List.length_append, List.length_append, List.length_append, List.length_append, big_len, put_len_small (by omega), put_len_small (by have := hk.2.2.1; omega), raws_len fun b hb => (h.2.1 b hb).1, files_len fun f hf => ⟨(m3 f.1 (List.mem_map.2 ⟨f, hf, rfl⟩)).2, (hk.2.2.2 f hf).2⟩]
  omega
end Go.Proofs.Ytloogjdojojehaa
namespace Go.Proofs.Ytloogjdojojehaa
open Go.RowKit Go.ChangeShapes Go.WideShapes
set_option linter.unusedVariables false

/-- a version, as it is told: no more is known of it -/
structure RawV where
  id : Nat
  bl : List (List Nat)
  ns : List (List Nat)
  zs : List Int
/-- hashes as rows -/
def rowH (x : List Nat) : List Value := ints .u8 (nn x)
def rowsH (l : List (List Nat)) : List (List Value) := l.map rowH
theorem rowsH_len (l : List (List Nat)) : (rowsH l).length = l.length := by simp [rowsH]
theorem rowsH_at {l : List (List Nat)} {j : Nat} (h : j < l.length) : (rowsH l)[j]? = some (rowH (l.getD j [])) := by simp [rowsH, h]
theorem rowsH_snoc (l : List (List Nat)) (x : List Nat) : rowsH (l ++ [x]) = rowsH l ++ [rowH x] := by simp [rowsH]
theorem rowH_len {x : List Nat} (h : x.length = 32) : (rowH x).length = 32 := by unfold rowH; rw [ints_length, nn_length, h]
theorem rowH_one (x : List Nat) : (rowH x).toArray.all (·.oneCell') = true := ints_one _ _
/-- hashes: of thirty-two bytes each -/
def HashL (l : List (List Nat)) : Prop := ∀ x ∈ l, x.length = 32 ∧ Bys x
/-- what is known of a version's parts -/
def RawV.ok (a : RawV) : Prop := a.id < 4294967296 ∧ HashL a.bl ∧ (∀ x ∈ a.ns, Bys x) ∧ (∀ z ∈ a.zs, (Lit.int .i64 z).wf = true)
/-- the version's cells -/
def cellsV (id : Nat) (vb vn vz : Value) : List Value := [.int .u32 (id : Int), vb, vn, vz]
/-- the value v is this version -/
def VV (w : World) (v : Value) (a : RawV) : Prop :=
  ∃ vb vn vz, v = .agg (cellsV a.id vb vn vz).toArray ∧ (∃ p c, vb = .slice p a.bl.length c) ∧ (∃ p c, vn = .slice p a.ns.length c) ∧ (∃ p c, vz = .slice p a.zs.length c) ∧ Sl w 32 vb (rowsH a.bl) ∧ Sl w 1 vn (rowsS a.ns) ∧ Sl w 1 vz (rowsZF a.zs)
theorem VV.below {w w' : World} {v : Value} {a : RawV} (h : VV w v a) (hb : Below w.heap.size w w') : VV w' v a := by
  obtain ⟨vb, vn, vz, e, q1, q2, q3, s1, s2, s3⟩ := h
  exact ⟨vb, vn, vz, e, q1, q2, q3, s1.below hb, s2.below hb, s3.below hb⟩
def noV : RawV := ⟨0, [], [], []⟩
theorem VV.none (w : World) : VV w (.agg #[.int .u32 0, .slice none 0 0, .slice none 0 0, .slice none 0 0]) noV :=
  ⟨_, _, _, rfl, ⟨_, _, rfl⟩, ⟨_, _, rfl⟩, ⟨_, _, rfl⟩, Sl.none 32, Sl.none 1, Sl.none 1⟩
theorem noV_ok : noV.ok := ⟨by decide, (fun x h => by cases h), (fun x h => by cases h), fun x h => by cases h⟩
theorem size_ver : (Try.prog.info? 30).map (·.size) = some 4 := by kernel_rfl
theorem size_hashV : (Try.prog.info? 34).map (·.size) = some 32 := by kernel_rfl
theorem cellsV_one (id : Nat) (pb pn pz : Option Addr) (nb nn' nz cb cn cz : Nat) : (cellsV id (.slice pb nb cb) (.slice pn nn' cn) (.slice pz nz cz)).toArray.all (·.oneCell') = true := by simp [cellsV, Value.oneCell']
/-! ### as arguments -/
section
variable {H : Type} {enc : TypeId × Value → H} {w : World} {base : Nat} {spare : Nat → Bool} {held : Bool}
theorem slice_shape {t e : TypeId} {fuel : Nat} {v : Value} {x : DataW H × List MemPlace} (ht : Try.prog.underlying t = some (.slice e)) (h : DataW.trod enc Try.prog w base spare held fuel t [v] = some x) : ∃ p n c, v = .slice p n c := by
  rcases Go.Deep.open_slice ht h with ⟨hcs, _⟩ | ⟨a, len, cap, m, n, D, Pl, hcs, _⟩
  · cases hcs; exact ⟨_, _, _, rfl⟩
  · cases hcs; exact ⟨_, _, _, rfl⟩
theorem open_hashes {p0 : Option Addr} {len cap : Nat} {d : DataW H} {p : List MemPlace} (h : DataW.Trod enc Try.prog w base spare held 26 (.slice p0 len cap) d p) :
    ∃ l : List (List Nat), l.length = len ∧ Sl w 32 (.slice p0 len cap) (rowsH l) ∧ HashL l ∧ (Value.slice p0 len cap = .slice none 0 0 ∨ ∃ ad n c, Value.slice p0 len cap = .slice (some ad) n c) ∧ len ≤ cap ∧ cap ≤ maxLen := by
  obtain ⟨m, hm⟩ := h
  have hcells : (Value.slice p0 len cap).cells.toList = [.slice p0 len cap] := rfl
  rw [hcells] at hm
  have hC : Try.prog.cellsOf 34 = 32 := by kernel_rfl
  rcases Go.Deep.open_slice Try.underlying26 hm with ⟨hcs, _⟩ | ⟨a, len', cap', m', n, D, Pl, hcs, hb, hl, hcap, hmm, hx, hi⟩
  · cases hcs
    exact ⟨[], rfl, Sl.none 32, (fun q h => (by cases h)), .inl rfl, Nat.le_refl _, by simp [maxLen]⟩
  · cases hcs
    rw [hC] at hi
    have hlm : len ≤ m' := by rw [hmm]; split <;> omega
    have each : ∀ i, i < len → ∃ q : List Nat, (∀ j v, (rowH q)[j]? = some v → w.cell? ((a.add (i * 32)).add j) = some v) ∧ q.length = 32 ∧ Bys q := fun i hil => by
      obtain ⟨cs, hc, ht⟩ := hi i (by omega)
      obtain ⟨_, hcl, hat⟩ := World.cells?_some hc
      obtain ⟨q, hq, h1, h2⟩ := open_bys (v := .agg cs.toArray) Try.underlying34 Try.underlying5 cells_u8 hC cs.toArray rfl ⟨n, by simpa [Value.cells] using ht⟩
      refine ⟨q, fun j v hv => ?_, h1, h2⟩
      have e : cs = ints .u8 (nn q) := by
        have := congrArg (fun v => match v with | Value.agg c => c.toList | _ => []) hq
        simpa using this
      have hj : j < 32 := by
        have := (List.getElem?_eq_some_iff.1 hv).1
        rw [rowH_len h1] at this
        exact this
      rw [hat j hj, e]
      exact hv
    obtain ⟨q, hq⟩ := Deep.choose_lt each
    refine ⟨(List.range len).map q, by simp, ?_, fun x hx => ?_, .inr ⟨_, _, _, rfl⟩, by omega, by omega⟩
    · unfold rowsH
      rw [List.map_map]
      refine rows_of a len cap _ (fun i hi => rowH_len (hq i hi).2.1) (fun h0 => ?_) (fun i hi j x hj => ?_)
      · have h1 := hq 0 h0
        have := cell_lt (h1.1 0 ((rowH (q 0))[0]'(by rw [rowH_len h1.2.1]; decide)) (List.getElem?_eq_getElem _))
        rwa [add_block, add_block] at this
      · rw [← Deep.add_add]
        exact (hq i hi).1 j x hj
    · obtain ⟨i, hi, rfl⟩ := List.mem_map.1 hx
      exact (hq i (List.mem_range.1 hi)).2
set_option maxRecDepth 100000 in
theorem open_version {r : Reach} {b0 : Nat} {v : Value} {d : DataW H} {p : List MemPlace} (hv : Value.okWide Try.prog w r b0 30 v) (h : DataW.Trod enc Try.prog w base spare held 30 v d p) :
    ∃ a : RawV, VV w v a ∧ a.ok ∧ a.bl.length ≤ maxLen ∧ a.ns.length ≤ maxLen ∧ a.zs.length ≤ maxLen := by
  obtain ⟨v0, v1, v2, v3, y0, y1, y2, y3, n, rfl, _, _, h0, h1, h2, h3⟩ := Go.Joins.open_agg4 Try.underlying30 (by kernel_rfl) (by kernel_rfl) hv h
  obtain ⟨k, e0, _, w0⟩ := DataW.trod_int Try.underlying22 h0
  obtain ⟨k, rfl, hk⟩ := nat_u32 k w0
  obtain ⟨p1, n1, c1, rfl⟩ := slice_shape Try.underlying26 h1
  obtain ⟨p2, n2, c2, rfl⟩ := slice_shape Try.underlying27 h2
  obtain ⟨p3, n3, c3, rfl⟩ := slice_shape Try.underlying28 h3
  obtain ⟨bl, rfl, s1, q1, _, m1, m1'⟩ := open_hashes (d := y1.1) (p := y1.2) ⟨n, h1⟩
  obtain ⟨ns, rfl, s2, q2, _, m2, m2'⟩ := open_texts (d := y2.1) (p := y2.2) ⟨n, h2⟩
  obtain ⟨zs, rfl, s3, q3, m3⟩ := open_nums (d := y3.1) (p := y3.2) Try.underlying28 Try.underlying3 (by kernel_rfl) ⟨n, h3⟩
  have e1 : v0 = .int .u32 (k : Int) := by simpa using e0
  subst e1
  exact ⟨⟨k, bl, ns, zs⟩, ⟨_, _, _, rfl, ⟨_, _, rfl⟩, ⟨_, _, rfl⟩, ⟨_, _, rfl⟩, s1, s2, s3⟩, ⟨hk, q1, q2, q3⟩, by show bl.length ≤ maxLen; omega, by show ns.length ≤ maxLen; omega, m3⟩
end
/-! ### whether it may be, by places -/
theorem may_long {nb : Nat} {ns : List (List Nat)} {zs : List Int} (h : 12 < ns.length ∨ ns.length ≠ zs.length) : mayH nb ns zs = false := by
  cases hb : mayH nb ns zs with
  | false => rfl
  | true =>
    obtain ⟨h1, h2, _⟩ := mayH_iff.1 hb
    rcases h with h | h
    · omega
    · exact absurd h2 h
theorem getN_mem {ns : List (List Nat)} {j : Nat} (h : j < ns.length) : ns.getD j [] ∈ ns := by
  rw [List.getD_eq_getElem?_getD, List.getElem?_eq_getElem h]
  exact List.getElem_mem _
theorem getZ_mem {zs : List Int} {j : Nat} (h : j < zs.length) : zs.getD j 0 ∈ zs := by
  rw [List.getD_eq_getElem?_getD, List.getElem?_eq_getElem h]
  exact List.getElem_mem _
/-- a file's name and size, at a place -/
def fineH (n : List Nat) (z : Int) : Prop := 0 < n.length ∧ n.length ≤ 20 ∧ 0 ≤ z ∧ z ≤ 300
theorem may_bad {nb : Nat} {ns : List (List Nat)} {zs : List Int} {j : Nat} (hl : ns.length = zs.length) (hj : j < ns.length) (h : ¬ fineH (ns.getD j []) (zs.getD j 0)) : mayH nb ns zs = false := by
  cases hb : mayH nb ns zs with
  | false => rfl
  | true =>
    obtain ⟨_, _, h3, h4, _⟩ := mayH_iff.1 hb
    have q1 := h3 _ (getN_mem hj)
    have q2 := h4 _ (getZ_mem (show j < zs.length by omega))
    exact absurd ⟨q1.1, q1.2, q2.1, q2.2⟩ h
theorem risesN_at (ns : List (List Nat)) (i : Nat) : ((ns.map fun n => (n, ([] : List Nat))).getD i noF).1 = ns.getD i [] := by
  rw [List.getD_eq_getElem?_getD, List.getElem?_map, List.getD_eq_getElem?_getD]
  cases ns[i]? <;> rfl
theorem may_falls {nb : Nat} {ns : List (List Nat)} {zs : List Int} {j : Nat} (hj : j + 1 < ns.length) (h : ltB (ns.getD j []) (ns.getD (j + 1) []) = false) : mayH nb ns zs = false := by
  cases hb : mayH nb ns zs with
  | false => rfl
  | true =>
    obtain ⟨_, _, _, _, h5, _⟩ := mayH_iff.1 hb
    have := rises_at h5 j (by rw [List.length_map]; exact hj)
    rw [risesN_at, risesN_at, h] at this
    cases this
theorem may_end {nb : Nat} {ns : List (List Nat)} {zs : List Int} (h12 : ns.length ≤ 12) (hl : ns.length = zs.length) (hf : ∀ k, k < ns.length → fineH (ns.getD k []) (zs.getD k 0)) (hr : ∀ k, k + 1 < ns.length → ltB (ns.getD k []) (ns.getD (k + 1) []) = true) : mayH nb ns zs = decide (nb = blocksH zs) := by
  have key : mayH nb ns zs = true ↔ nb = blocksH zs := by
    rw [mayH_iff]
    refine ⟨fun h => h.2.2.2.2.2, fun h => ⟨h12, hl, fun n hn => ?_, fun z hz => ?_, rises_of fun i hi => ?_, h⟩⟩
    · obtain ⟨k, hk, rfl⟩ := List.getElem_of_mem hn
      have := hf k hk
      rw [List.getD_eq_getElem?_getD, List.getElem?_eq_getElem hk] at this
      exact ⟨this.1, this.2.1⟩
    · obtain ⟨k, hk, rfl⟩ := List.getElem_of_mem hz
      have := hf k (by omega)
      have e : zs.getD k 0 = zs[k] := by rw [List.getD_eq_getElem?_getD, List.getElem?_eq_getElem hk]; rfl
      rw [e] at this
      exact ⟨this.2.2.1, this.2.2.2⟩
    · rw [risesN_at, risesN_at]
      exact hr i (by rw [List.length_map] at hi; exact hi)
  cases hb : mayH nb ns zs with
  | true => exact (decide_eq_true (key.1 hb)).symm
  | false => exact (decide_eq_false (fun h => by rw [key.2 h] at hb; cases hb)).symm
theorem blocksH_le {zs : List Int} (h : zs.length ≤ 1000) : blocksH zs ≤ 1200 := by
  have h1 := sumF_le (l := zs.map cntS) (n := 300) fun x hx => by
    obtain ⟨z, _, rfl⟩ := List.mem_map.1 hx
    unfold cntS
    split <;> omega
  rw [List.length_map] at h1
  unfold blocksH blkN
  omega
end Go.Proofs.Ytloogjdojojehaa
namespace Go.Proofs.Ytloogjdojojehaa
open Go.RowKit
set_option linter.unusedVariables false

theorem sumS_snoc (zs : List Int) {j : Nat} (h : j < zs.length) : sumF ((zs.take (j + 1)).map cntS) = sumF ((zs.take j).map cntS) + cntS (zs.getD j 0) := by
  rw [List.take_succ_eq_append_getElem h, List.map_append, sumF_app, List.getD_eq_getElem?_getD, List.getElem?_eq_getElem h]
  simp [sumF]
theorem sumS_le (zs : List Int) (j : Nat) : sumF ((zs.take j).map cntS) ≤ 300 * zs.length := by
  have h1 := sumF_le (l := (zs.take j).map cntS) (n := 300) fun x hx => by
    obtain ⟨z, _, rfl⟩ := List.mem_map.1 hx
    unfold cntS
    split <;> omega
  rw [List.length_map, List.length_take] at h1
  have h2 : 300 * min j zs.length ≤ 300 * zs.length := Nat.mul_le_mul_left _ (by omega)
  omega
set_option maxRecDepth 100000 in
set_option maxHeartbeats 1000000 in
theorem hr_Blocks (zs : List Int) (p : Option Addr) (c : Nat) (w : World) (hl : zs.length ≤ 1000) (hS : Sl w 1 (.slice p zs.length c) (rowsZF zs)) :
    Calls Try.prog 56 #[.slice p zs.length c] w fun e w' => e = .returned (.int .i64 ((blocksH zs : Nat) : Int)) ∧ Below w.heap.size w w' := by
  have HS := Lib.hid hS
  clear hS
  go_enter Try.func56, Try.ntmps56
  go_wp2
  go_loopw [3, 4] (fun u i wr => ∃ j : Nat, j ≤ zs.length ∧ i = .int .i64 (j : Int) ∧ u = .int .i64 ((sumF ((zs.take j).map cntS) : Nat) : Int) ∧ Below w.heap.size w wr) (fun _ i _ => zs.length - (intOf i).toNat)
  case atStart => exact ⟨0, by omega, rfl, rfl, Below.refl _ _⟩
  case round =>
    obtain ⟨j, hj, rfl, rfl, gb⟩ := hrel
    have hle := sumS_le zs j
    by_cases hlt : j < zs.length
    · obtain ⟨a, rfl, c1⟩ := SlZF.cell (HS.out.below gb) hlt
      have d1 : (j : Int) < (zs.length : Int) := by omega
      have HSN := Lib.hid (sumS_snoc zs hlt)
      generalize zs.getD j 0 = z at *
      generalize sumF ((zs.take j).map cntS) = N at *
      by_cases hz : 0 ≤ z ∧ z ≤ 300
      · obtain ⟨k, rfl⟩ : ∃ k : Nat, z = (k : Int) := ⟨z.toNat, by omega⟩
        have g1 : decide ((0 : Int) ≤ (k : Int)) = true := by simp
        have g2 : decide ((k : Int) ≤ 300) = true := by simp; omega
        have E : Hid (sumF ((zs.take (j + 1)).map cntS) = N + k) := Lib.hid (by rw [HSN.out]; unfold cntS; rw [if_pos hz, Int.toNat_natCast])
        clear HSN
        go_wp2
        go_roundw
        case rel => exact ⟨j + 1, by omega, by go_num, by rw [E.out]; go_num, gb⟩
        case measure => simp [intOf]; omega
      · have E : Hid (sumF ((zs.take (j + 1)).map cntS) = N) := Lib.hid (by rw [HSN.out]; unfold cntS; rw [if_neg hz]; rfl)
        clear HSN
        by_cases h0 : 0 ≤ z
        · have g1 : decide ((0 : Int) ≤ z) = true := by simp; exact h0
          have g2 : decide (z ≤ 300) = false := by simp; omega
          clear hz
          go_wp2
          go_roundw
          case rel => exact ⟨j + 1, by omega, by go_num, by rw [E.out], gb⟩
          case measure => simp [intOf]; omega
        · have g1 : decide ((0 : Int) ≤ z) = false := by simp; omega
          clear hz
          go_wp2
          go_roundw
          case rel => exact ⟨j + 1, by omega, by go_num, by rw [E.out], gb⟩
          case measure => simp [intOf]; omega
    · obtain rfl : j = zs.length := by omega
      have hb : blocksH zs = (sumF ((zs.take zs.length).map cntS) + 255) / 256 := by unfold blocksH blkN; rw [List.take_length]
      generalize sumF ((zs.take zs.length).map cntS) = N at *
      have h1 : ((N : Int) + 256 - 1) / 256 = ((blocksH zs : Nat) : Int) := by rw [hb]; omega
      have H1 := Lib.hid h1
      clear hb h1
      go_wp2
      go_ret
      exact ⟨congrArg (fun x => Ending.returned (.int .i64 x)) H1.out, gb⟩
set_option maxRecDepth 100000 in
set_option maxHeartbeats 4000000 in
theorem hr_May (a : RawV) (v : Value) (b : Bool) (w : World) (hb : mayH a.bl.length a.ns a.zs = b) (hV : VV w v a) (hy : ∀ x ∈ a.ns, Bys x) (h1 : a.bl.length ≤ 1000) (h2 : a.ns.length ≤ 1000) (h3 : a.zs.length ≤ 1000) :
    Calls Try.prog 31 #[v] w fun e w' => e = .returned (.bool b) ∧ Below w.heap.size w w' := by
  obtain ⟨vb, vn, vz, rfl, ⟨pb, cb, rfl⟩, ⟨pn, cn, rfl⟩, ⟨pz, cz, rfl⟩, sb, sn, sz⟩ := hV
  obtain ⟨id, bl, ns, zs⟩ := a
  dsimp only at *
  have e0 : (cellsV id (.slice pb bl.length cb) (.slice pn ns.length cn) (.slice pz zs.length cz)).toArray = #[.int .u32 (id : Int), .slice pb bl.length cb, .slice pn ns.length cn, .slice pz zs.length cz] := rfl
  rw [e0]
  have HB := Lib.hid hb
  have HY := Lib.hid hy
  have SN := Lib.hid sn
  have SZ := Lib.hid sz
  have k0 := Blk.new' w 30 (c := #[.int .u32 (id : Int), .slice pb bl.length cb, .slice pn ns.length cn, .slice pz zs.length cz]) (cellsV id (.slice pb bl.length cb) (.slice pn ns.length cn) (.slice pz zs.length cz)) rfl
  have K0 := Lib.hid k0
  have KB := Lib.hid ((Below.refl w.heap.size w).alloc (Nat.le_refl _) (.cells #[.int .u32 (id : Int), .slice pb bl.length cb, .slice pn ns.length cn, .slice pz zs.length cz] 30))
  obtain ⟨B, hB⟩ : ∃ B, w.heap.size = B := ⟨_, rfl⟩
  have HBE := Lib.hid hB
  clear hb hy sn sz k0 e0
  by_cases q1 : 12 < ns.length
  · have g1 : (12 : Int) < (ns.length : Int) := by omega
    have e1 : Hid (false = b) := Lib.hid (by rw [← HB.out, may_long (.inl q1)])
    clear q1 h1 h2 h3
    go_enter Try.func31, Try.ntmps31
    go_wp2
    go_ret
    exact ⟨congrArg (fun x => Ending.returned (.bool x)) e1.out, by first | exact KB.out | (rw [HBE.out] at KB; exact KB.out)⟩
  have g1 : ¬ (12 : Int) < (ns.length : Int) := by omega
  by_cases q2 : ns.length = zs.length
  · have h12 : Hid (ns.length ≤ 12) := Lib.hid (by omega)
    have HL := Lib.hid q2
    rw [← q2] at SZ K0 KB ⊢
    clear q1 q2 h3
    go_enter Try.func31, Try.ntmps31
    go_wp2
    go_loopw [3] (fun i wr => ∃ j : Nat, j ≤ ns.length ∧ i = .int .i64 (j : Int) ∧ (∀ k, k < j → fineH (ns.getD k []) (zs.getD k 0)) ∧ (∀ k, k + 1 < j → ltB (ns.getD k []) (ns.getD (k + 1) []) = true) ∧ Blk wr B 30 (cellsV id (.slice pb bl.length cb) (.slice pn ns.length cn) (.slice pz ns.length cz)) ∧ Below w.heap.size w wr) (fun i _ => ns.length - (intOf i).toNat)
    case atStart => exact ⟨0, by omega, rfl, (fun k h => by omega), (fun k h => by omega), by rw [← HBE.out]; exact K0.out, KB.out⟩
    case round =>
      obtain ⟨j, hj, rfl, hf, hr, bB, gb⟩ := hrel
      have HF := Lib.hid hf
      have HR := Lib.hid hr
      have BB := Lib.hid bB
      have b1 := bB.cell 1
      have b2 := bB.cell 2
      have b3 := bB.cell 3
      simp only [cellsV, List.getElem?_cons_zero, List.getElem?_cons_succ] at b1 b2 b3
      clear hf hr bB K0 KB
      by_cases hlt : j < ns.length
      · obtain ⟨an, rfl, c1⟩ := SlS.cell (SN.out.below gb) hlt
        obtain ⟨az, rfl, c2⟩ := SlZF.cell (l := zs) (j := j) (SZ.out.below gb) (by rw [← HL.out]; exact hlt)
        have d1 : (j : Int) < (ns.length : Int) := by omega
        have BAD := Lib.hid (fun h => (may_bad (nb := bl.length) (j := j) HL.out hlt h).symm.trans HB.out)
        have s1 : (tx (ns.getD j [])).size = (ns.getD j []).length := tx_size _
        unfold fineH at BAD
        rw [← s1] at BAD
        obtain ⟨X, hX⟩ : ∃ X, tx (ns.getD j []) = X := ⟨_, rfl⟩
        obtain ⟨z, hz⟩ : ∃ z, zs.getD j 0 = z := ⟨_, rfl⟩
        rw [hX] at c1 BAD s1
        rw [hz] at c2 BAD
        have S1 := Lib.hid s1
        have HX := Lib.hid hX
        have HZ := Lib.hid hz
        clear s1 hX hz
        by_cases x0 : X.size = 0
        · have t1 := tx_none x0
          have e1 : Hid (false = b) := Lib.hid (BAD.out (by omega))
          clear BAD x0
          go_wp2
          go_quiet (fail)
          go_wp2
          go_ret
          exact ⟨congrArg (fun x => Ending.returned (.bool x)) e1.out, below_drewN gb _⟩
        · have t1 := tx_some x0
          by_cases x1 : 20 < X.size
          · have t2 : (20 : Int) < (X.size : Int) := by omega
            have e1 : Hid (false = b) := Lib.hid (BAD.out (by omega))
            clear BAD x0 x1
            go_wp2
            go_quiet (fail)
            go_wp2
            go_ret
            exact ⟨congrArg (fun x => Ending.returned (.bool x)) e1.out, below_drewN gb _⟩
          · have t2 : decide ((20 : Int) < (X.size : Int)) = false := by simp; omega
            have t2' : decide (20 < X.size) = false := by simp; omega
            by_cases z0 : z < 0
            · have e1 : Hid (false = b) := Lib.hid (BAD.out (by omega))
              clear BAD x0 x1
              go_wp2
              go_quiet (fail)
              go_wp2
              go_ret
              exact ⟨congrArg (fun x => Ending.returned (.bool x)) e1.out, below_drewN gb _⟩
            · have t3 : decide (z < 0) = false := by simp; omega
              by_cases z1 : 300 < z
              · have e1 : Hid (false = b) := Lib.hid (BAD.out (by omega))
                clear BAD x0 x1 z0
                go_wp2
                go_quiet (fail)
                go_wp2
                go_ret
                exact ⟨congrArg (fun x => Ending.returned (.bool x)) e1.out, below_drewN gb _⟩
              · have t4 : decide (300 < z) = false := by simp; omega
                have FINE : Hid (fineH (ns.getD j []) (zs.getD j 0)) := Lib.hid (by unfold fineH; rw [HZ.out]; have := S1.out; omega)
                have FN : Hid (∀ k, k < j + 1 → fineH (ns.getD k []) (zs.getD k 0)) := Lib.hid fun k hk => by
                  by_cases e : k = j
                  · subst e; exact FINE.out
                  · exact HF.out k (by omega)
                clear BAD x0 x1 z0 z1
                by_cases j0 : j = 0
                · have t5 : decide ((0 : Int) < (j : Int)) = false := by simp; omega
                  have t5' : decide (0 < j) = false := by simp; omega
                  clear j0
                  go_wp2
                  go_quiet (fail)
                  go_wp2
                  go_roundw
                  case rel => exact ⟨j + 1, by omega, by go_num, FN.out, (fun k hk => absurd t5' (by simp; omega)), BB.out.below (below_drewN (Below.refl _ _) _) BB.out.lt, below_drewN gb _⟩
                  case measure => simp [intOf]; omega
                · obtain ⟨i, hij⟩ : ∃ i, j = i + 1 := ⟨j - 1, by omega⟩
                  have t5 : decide ((0 : Int) < (j : Int)) = true := by simp; omega
                  have t5n : decide (0 < j) = true := by simp; omega
                  have hsub : (j : Int) - 1 = (i : Int) := by omega
                  obtain ⟨an', ea, c3⟩ := SlS.cell (SN.out.below gb) (j := i) (by omega)
                  cases ea
                  have i1 : (i : Int) < (ns.length : Int) := by omega
                  have hless := less_tx (tx (ns.getD i [])) X
                  rw [sl_tx (HY.out _ (getN_mem (by omega))), ← HX.out, sl_tx (HY.out _ (getN_mem hlt)), HX.out] at hless
                  have HJ := Lib.hid hij
                  have FALLS := Lib.hid (fun h => (may_falls (nb := bl.length) (zs := zs) (j := i) (by omega) h).symm.trans HB.out)
                  have HLS := Lib.hid hless
                  generalize tx (ns.getD i []) = Y at *
                  rw [← hij] at FALLS
                  clear hless j0 hij
                  by_cases hl2 : ltB (ns.getD i []) (ns.getD j []) = true
                  · have t6 : Op.bytesLess Y.toList X.toList = true := by rw [HLS.out]; exact hl2
                    have RN : Hid (∀ k, k + 1 < j + 1 → ltB (ns.getD k []) (ns.getD (k + 1) []) = true) := Lib.hid fun k hk => by
                      have hjj := HJ.out
                      by_cases e : k = i
                      · subst e; rw [← hjj]; exact hl2
                      · exact HR.out k (by omega)
                    clear hl2 HLS FALLS
                    go_wp2
                    go_quiet (fail)
                    go_wp2
                    go_roundw
                    case rel => exact ⟨j + 1, by omega, by go_num, FN.out, RN.out, BB.out.below (below_drewN (Below.refl _ _) _) BB.out.lt, below_drewN gb _⟩
                    case measure => simp [intOf]; omega
                  · have t6 : Op.bytesLess Y.toList X.toList = false := by rw [HLS.out]; simpa using hl2
                    have e1 : Hid (false = b) := Lib.hid (FALLS.out (by simpa using hl2))
                    clear hl2 HLS FALLS
                    go_wp2
                    go_quiet (fail)
                    go_wp2
                    go_ret
                    exact ⟨congrArg (fun x => Ending.returned (.bool x)) e1.out, below_drewN gb _⟩
      · obtain rfl : j = ns.length := by omega
        have hbd := may_end (nb := bl.length) h12.out HL.out HF.out HR.out
        rw [HB.out] at hbd
        have QB := Lib.hid (fun wx (h : NewBut wr wx) => (hr_Blocks zs pz cz wx (by rw [← HL.out]; omega) (by rw [← HL.out]; exact (SZ.out.below gb).below h)).mono fun _ _ ⟨x1, x2⟩ => (⟨x1, h.trans (x2.mono h.size)⟩ : _ ∧ NewBut wr _))
        rw [← HL.out] at QB
        have L1 : Hid (∀ wx, NewBut wr wx → wx.cell? ⟨B, 1, none⟩ = some (.slice pb bl.length cb)) := Lib.hid fun wx h => by
          have := (BB.out.below h BB.out.lt).cell 1
          simpa [cellsV] using this
        have L3 : Hid (∀ wx, NewBut wr wx → wx.cell? ⟨B, 3, none⟩ = some (.slice pz ns.length cz)) := Lib.hid fun wx h => by
          have := (BB.out.below h BB.out.lt).cell 3
          simpa [cellsV] using this
        obtain ⟨M, hM⟩ : ∃ M, blocksH zs = M := ⟨_, rfl⟩
        rw [hM] at hbd QB
        have GB := Lib.hid gb
        clear hM gb hlt HF HR
        go_wp2_with fail
        by_cases hbm : bl.length = M
        · subst hbm
          have e1 : Hid (true = b) := Lib.hid (by rw [hbd]; simp)
          clear hbd
          refine region_quiet_tail (C := NewBut wr) 7 mixed (by kernel_rfl) (show Below _ _ _ from (Below.refl _ _).drew) ?_
          simp only [List.take_succ_cons, List.take_zero, List.drop_succ_cons, List.drop_zero]
          repeat (first | (refine wpQuiet_load_one rfl 26 _ rfl ⟨B, 1, none⟩ rfl _ L1.out Try.underlying26 rfl ?_) | (refine wpQuiet_load_one rfl 28 _ rfl ⟨B, 3, none⟩ rfl _ L3.out Try.underlying28 rfl ?_) | go_big_quiet_step (fail) | (refine wpQuiet_step (fun K' hK' => ?_); go_simp; first | (refine hK' _ ?_; clear hK' K') | (refine ⟨_, fun _ _ => rfl, hK' _ ?_⟩; clear hK' K') | ((with_reducible refine ⟨_, fun wx hx => QB.out wx hx, hK' _ ?_⟩); clear hK' K')))
          refine wpQuiet_nil ?_
          intro w5 hb5
          have G5 := Lib.hid (GB.out.trans (Below.mono hb5 GB.out.size))
          clear hb5
          go_wp2
          go_ret
          exact ⟨congrArg (fun x => Ending.returned (.bool x)) e1.out, G5.out⟩
        · have e1 : Hid (false = b) := Lib.hid (by rw [hbd]; simp [hbm])
          have m1 : ((bl.length : Int) == (M : Int)) = false := by rw [beq_eq_false_iff_ne]; omega
          have m2 : ¬ (bl.length : Int) = (M : Int) := by omega
          clear hbd hbm
          refine region_quiet_tail (C := NewBut wr) 7 mixed (by kernel_rfl) (show Below _ _ _ from (Below.refl _ _).drew) ?_
          simp only [List.take_succ_cons, List.take_zero, List.drop_succ_cons, List.drop_zero]
          repeat (first | (refine wpQuiet_load_one rfl 26 _ rfl ⟨B, 1, none⟩ rfl _ L1.out Try.underlying26 rfl ?_) | (refine wpQuiet_load_one rfl 28 _ rfl ⟨B, 3, none⟩ rfl _ L3.out Try.underlying28 rfl ?_) | go_big_quiet_step (fail) | (refine wpQuiet_step (fun K' hK' => ?_); go_simp; first | (refine hK' _ ?_; clear hK' K') | (refine ⟨_, fun _ _ => rfl, hK' _ ?_⟩; clear hK' K') | ((with_reducible refine ⟨_, fun wx hx => QB.out wx hx, hK' _ ?_⟩); clear hK' K')))
          refine wpQuiet_nil ?_
          intro w5 hb5
          have G5 := Lib.hid (GB.out.trans (Below.mono hb5 GB.out.size))
          clear hb5
          go_wp2
          go_ret
          exact ⟨congrArg (fun x => Ending.returned (.bool x)) e1.out, G5.out⟩
  · have g2 : ((ns.length : Int) != (zs.length : Int)) = true := by rw [bne_iff_ne]; omega
    have g2' : (ns.length : Int) ≠ (zs.length : Int) := by omega
    have e1 : Hid (false = b) := Lib.hid (by rw [← HB.out, may_long (.inr q2)])
    clear q1 q2 h1 h2 h3
    go_enter Try.func31, Try.ntmps31
    go_wp2
    go_ret
    exact ⟨congrArg (fun x => Ending.returned (.bool x)) e1.out, by first | exact KB.out | (rw [HBE.out] at KB; exact KB.out)⟩
end Go.Proofs.Ytloogjdojojehaa
namespace Go.Proofs.Ytloogjdojojehaa
open Go.RowKit
set_option linter.unusedVariables false

/-- the version of these parts, where it may be -/
def RawV.ver (a : RawV) : VerH := ⟨a.id, a.bl, a.ns.zip (a.zs.map Int.toNat)⟩
theorem ver_names {a : RawV} (h : a.ns.length = a.zs.length) : a.ver.names = a.ns := by
  unfold VerH.names RawV.ver
  exact List.map_fst_zip (by rw [List.length_map]; omega)
theorem zip_sizes : ∀ (ns : List (List Nat)) (zs : List Int), ns.length = zs.length → (∀ z ∈ zs, 0 ≤ z) → (ns.zip (zs.map Int.toNat)).map (fun f => (f.2 : Int)) = zs
  | [], [], _, _ => rfl
  | [], _ :: _, h, _ => by simp at h
  | _ :: _, [], h, _ => by simp at h
  | n :: ns, z :: zs, h, hz => by
    have h0 := hz z (by simp)
    have ih := zip_sizes ns zs (by simpa using h) fun y hy => hz y (by simp [hy])
    simp only [List.map_cons, List.zip_cons_cons]
    rw [ih, Int.toNat_of_nonneg h0]
theorem ver_sizes {a : RawV} (h : a.ns.length = a.zs.length) (h0 : ∀ z ∈ a.zs, 0 ≤ z) : a.ver.sizes = a.zs := zip_sizes _ _ h h0
theorem ver_okR {a : RawV} (hk : a.ok) (h : mayH a.bl.length a.ns a.zs = true) : VerOk a.ver ∧ a.ver.names = a.ns ∧ a.ver.sizes = a.zs := by
  obtain ⟨h1, h2, h3, h4, h5, h6⟩ := mayH_iff.1 h
  have e1 := ver_names (a := a) h2
  have e2 := ver_sizes (a := a) h2 fun z hz => (h4 z hz).1
  refine ⟨⟨hk.1, hk.2.1, fun f hf => hk.2.2.1 _ ?_, ?_⟩, e1, e2⟩
  · rw [← e1]
    exact List.mem_map.2 ⟨f, hf, rfl⟩
  · unfold VerH.may
    rw [e1, e2]
    exact h
/-- what Encode tells -/
def encT (a : RawV) : ByteArray × Nat := if mayH a.bl.length a.ns a.zs then (tx (verE a.ver), 0) else (⟨#[]⟩, 1)
/-! ### the bytes so far -/
def enA (a : RawV) : List Nat := bigL a.id 4 ++ putL a.bl.length
def enB (a : RawV) (k : Nat) : List Nat := enA a ++ (a.bl.take k).flatMap id
def enC (a : RawV) : List Nat := enB a a.bl.length ++ putL a.ns.length
def enD (a : RawV) (k : Nat) : List Nat := enC a ++ (a.ver.files.take k).flatMap fileE
theorem files_len' {a : RawV} (h : a.ns.length = a.zs.length) : a.ver.files.length = a.ns.length := by
  unfold RawV.ver
  simp only [List.length_zip, List.length_map]
  omega
theorem enD_all {a : RawV} (h : a.ns.length = a.zs.length) : enD a a.ns.length = verE a.ver := by
  unfold enD enC enB enA verE
  rw [List.take_of_length_le (l := a.ver.files) (by rw [files_len' h]; exact Nat.le_refl _), List.take_length, files_len' h]
  simp only [List.append_assoc]
  rfl
theorem enB_snoc (a : RawV) {k : Nat} (h : k < a.bl.length) : enB a (k + 1) = enB a k ++ a.bl.getD k [] := by
  unfold enB
  rw [List.take_succ_eq_append_getElem h, List.flatMap_append, List.getD_eq_getElem?_getD, List.getElem?_eq_getElem h, List.append_assoc]
  simp
theorem file_at (a : RawV) {k : Nat} (h1 : k < a.ns.length) (h2 : k < a.zs.length) : a.ver.files[k]? = some (a.ns.getD k [], (a.zs.getD k 0).toNat) := by
  unfold RawV.ver
  simp only
  rw [List.getElem?_zip_eq_some]
  refine ⟨?_, ?_⟩
  · rw [List.getD_eq_getElem?_getD, List.getElem?_eq_getElem h1]; rfl
  · have e : a.zs.getD k 0 = a.zs[k] := by rw [List.getD_eq_getElem?_getD, List.getElem?_eq_getElem h2]; rfl
    rw [List.getElem?_map, List.getElem?_eq_getElem h2, e]; rfl
theorem enD_snoc (a : RawV) {k : Nat} (h1 : k < a.ns.length) (h2 : k < a.zs.length) : enD a (k + 1) = (enD a k ++ (putL (a.ns.getD k []).length ++ a.ns.getD k [])) ++ putL (a.zs.getD k 0).toNat := by
  have hf := file_at a h1 h2
  have hk : k < a.ver.files.length := (List.getElem?_eq_some_iff.1 hf).1
  have he : a.ver.files[k] = (a.ns.getD k [], (a.zs.getD k 0).toNat) := (List.getElem?_eq_some_iff.1 hf).2
  unfold enD
  rw [List.take_succ_eq_append_getElem hk, List.flatMap_append, he]
  simp only [List.flatMap_cons, List.flatMap_nil, List.append_nil, fileE, List.append_assoc]
theorem enB_len {a : RawV} (hk : HashL a.bl) (h15 : a.bl.length ≤ 15) (k : Nat) : (enB a k).length ≤ 500 := by
  unfold enB enA
  have h1 := raws_len (l := a.bl.take k) fun b hb => (hk b (List.mem_of_mem_take hb)).1
  rw [List.length_append, List.length_append, big_len, put_len_small (by omega), h1, List.length_take]
  omega
theorem enC_len {a : RawV} (hk : HashL a.bl) (h15 : a.bl.length ≤ 15) (h12 : a.ns.length ≤ 12) : (enC a).length ≤ 501 := by
  unfold enC
  have := enB_len hk h15 a.bl.length
  rw [List.length_append, put_len_small (by omega)]
  omega
theorem enD_len {a : RawV} (hk : HashL a.bl) (h15 : a.bl.length ≤ 15) (h12 : a.ns.length ≤ 12) (hl : a.ns.length = a.zs.length) (hf : ∀ k, k < a.ns.length → fineH (a.ns.getD k []) (a.zs.getD k 0)) : ∀ k, k ≤ a.ns.length → (enD a k).length ≤ 501 + 23 * k
  | 0, _ => by
    unfold enD
    have := enC_len hk h15 h12
    simp
    omega
  | k + 1, h => by
    have ih := enD_len hk h15 h12 hl hf k (by omega)
    have q := hf k (by omega)
    unfold fineH at q
    rw [enD_snoc a (by omega) (by omega), List.length_append, List.length_append, List.length_append, put_len_small (by omega)]
    have : (putL (a.zs.getD k 0).toNat).length ≤ 2 := by
      by_cases hh : (a.zs.getD k 0).toNat < 128
      · rw [put_len_small hh]; decide
      · rw [put_len_two hh (by omega)]; decide
    omega
end Go.Proofs.Ytloogjdojojehaa
namespace Go.Proofs.Ytloogjdojojehaa
open Go.RowKit
set_option linter.unusedVariables false

/-- are these the same? -/
def sameV (a b : RawV) : Bool := decide (a.id = b.id) && decide (a.bl = b.bl) && decide (a.ns = b.ns) && decide (a.zs = b.zs)
theorem same_iff {a b : RawV} : sameV a b = true ↔ a.id = b.id ∧ a.bl = b.bl ∧ a.ns = b.ns ∧ a.zs = b.zs := by
  unfold sameV
  simp only [Bool.and_eq_true, decide_eq_true_eq, and_assoc]
theorem same_self (a : RawV) : sameV a a = true := same_iff.2 ⟨rfl, rfl, rfl, rfl⟩
theorem same_no {a b : RawV} {r : Bool} (hr : sameV a b = r) (h : ¬ (a.id = b.id ∧ a.bl = b.bl ∧ a.ns = b.ns ∧ a.zs = b.zs)) : false = r := by
  cases r with
  | false => rfl
  | true => exact absurd (same_iff.1 hr) h
theorem listN_ext {a b : List (List Nat)} (h : a.length = b.length) (he : ∀ k, k < a.length → a.getD k [] = b.getD k []) : a = b := by
  refine List.ext_getElem h fun k h1 h2 => ?_
  have := he k h1
  rwa [List.getD_eq_getElem?_getD, List.getD_eq_getElem?_getD, List.getElem?_eq_getElem h1, List.getElem?_eq_getElem h2] at this
theorem listZ_ext {a b : List Int} (h : a.length = b.length) (he : ∀ k, k < a.length → a.getD k 0 = b.getD k 0) : a = b := by
  refine List.ext_getElem h fun k h1 h2 => ?_
  have := he k h1
  rwa [List.getD_eq_getElem?_getD, List.getD_eq_getElem?_getD, List.getElem?_eq_getElem h1, List.getElem?_eq_getElem h2] at this
set_option maxRecDepth 100000 in
set_option maxHeartbeats 4000000 in
theorem hr_Same (a b : RawV) (va vb : Value) (r : Bool) (w : World) (hr : sameV a b = r) (hA : VV w va a) (hB : VV w vb b) (ha : a.ok) (hb : b.ok) (h1 : a.bl.length ≤ 1000000) (h2 : a.ns.length ≤ 1000000) (h3 : a.zs.length ≤ 1000000) :
    Calls Try.prog 23 #[va, vb] w fun e w' => e = .returned (.bool r) ∧ Below w.heap.size w w' := by
  obtain ⟨v1, v2, v3, rfl, ⟨pb, cb, rfl⟩, ⟨pn, cn, rfl⟩, ⟨pz, cz, rfl⟩, sb, sn, sz⟩ := hA
  obtain ⟨u1, u2, u3, rfl, ⟨qb, db, rfl⟩, ⟨qn, dn, rfl⟩, ⟨qz, dz, rfl⟩, tb, tn, tz⟩ := hB
  obtain ⟨ia, la, na, za⟩ := a
  obtain ⟨ib, lb, nb, zb⟩ := b
  dsimp only at *
  obtain ⟨B, hBB⟩ : ∃ B, w.heap.size = B := ⟨_, rfl⟩
  have HBE := Lib.hid hBB
  have k0 := (Blk.newAt w B hBB 30 (c := (cellsV ia (.slice pb la.length cb) (.slice pn na.length cn) (.slice pz za.length cz)).toArray) _ rfl).alloc (.cells (cellsV ib (.slice qb lb.length db) (.slice qn nb.length dn) (.slice qz zb.length dz)).toArray 30)
  have k1 := Blk.newAt (w.alloc (.cells (cellsV ia (.slice pb la.length cb) (.slice pn na.length cn) (.slice pz za.length cz)).toArray 30)) (B + 1) (by simp [hBB]) 30 (c := (cellsV ib (.slice qb lb.length db) (.slice qn nb.length dn) (.slice qz zb.length dz)).toArray) _ rfl
  have KB := Lib.hid (((Below.refl w.heap.size w).alloc (Nat.le_refl _) (.cells (cellsV ia (.slice pb la.length cb) (.slice pn na.length cn) (.slice pz za.length cz)).toArray 30)).alloc (by simp) (.cells (cellsV ib (.slice qb lb.length db) (.slice qn nb.length dn) (.slice qz zb.length dz)).toArray 30))
  have HR := Lib.hid hr
  have HA := Lib.hid ha
  have HB := Lib.hid hb
  have SB := Lib.hid sb
  have SN := Lib.hid sn
  have SZ := Lib.hid sz
  have TB := Lib.hid tb
  have TN := Lib.hid tn
  have TZ := Lib.hid tz
  have K0 := Lib.hid k0
  have K1 := Lib.hid k1
  have ca0 : ((w.alloc (.cells (cellsV ia (.slice pb la.length cb) (.slice pn na.length cn) (.slice pz za.length cz)).toArray 30)).alloc (.cells (cellsV ib (.slice qb lb.length db) (.slice qn nb.length dn) (.slice qz zb.length dz)).toArray 30)).cell? ⟨B, 0, none⟩ = some (.int .u32 (ia : Int)) := by rw [k0.cell]; rfl
  have ca1 : ((w.alloc (.cells (cellsV ia (.slice pb la.length cb) (.slice pn na.length cn) (.slice pz za.length cz)).toArray 30)).alloc (.cells (cellsV ib (.slice qb lb.length db) (.slice qn nb.length dn) (.slice qz zb.length dz)).toArray 30)).cell? ⟨B, 1, none⟩ = some (.slice pb la.length cb) := by rw [k0.cell]; rfl
  have ca2 : ((w.alloc (.cells (cellsV ia (.slice pb la.length cb) (.slice pn na.length cn) (.slice pz za.length cz)).toArray 30)).alloc (.cells (cellsV ib (.slice qb lb.length db) (.slice qn nb.length dn) (.slice qz zb.length dz)).toArray 30)).cell? ⟨B, 2, none⟩ = some (.slice pn na.length cn) := by rw [k0.cell]; rfl
  have ca3 : ((w.alloc (.cells (cellsV ia (.slice pb la.length cb) (.slice pn na.length cn) (.slice pz za.length cz)).toArray 30)).alloc (.cells (cellsV ib (.slice qb lb.length db) (.slice qn nb.length dn) (.slice qz zb.length dz)).toArray 30)).cell? ⟨B, 3, none⟩ = some (.slice pz za.length cz) := by rw [k0.cell]; rfl
  have cb0 : ((w.alloc (.cells (cellsV ia (.slice pb la.length cb) (.slice pn na.length cn) (.slice pz za.length cz)).toArray 30)).alloc (.cells (cellsV ib (.slice qb lb.length db) (.slice qn nb.length dn) (.slice qz zb.length dz)).toArray 30)).cell? ⟨B + 1, 0, none⟩ = some (.int .u32 (ib : Int)) := by rw [k1.cell]; rfl
  have cb1 : ((w.alloc (.cells (cellsV ia (.slice pb la.length cb) (.slice pn na.length cn) (.slice pz za.length cz)).toArray 30)).alloc (.cells (cellsV ib (.slice qb lb.length db) (.slice qn nb.length dn) (.slice qz zb.length dz)).toArray 30)).cell? ⟨B + 1, 1, none⟩ = some (.slice qb lb.length db) := by rw [k1.cell]; rfl
  have cb2 : ((w.alloc (.cells (cellsV ia (.slice pb la.length cb) (.slice pn na.length cn) (.slice pz za.length cz)).toArray 30)).alloc (.cells (cellsV ib (.slice qb lb.length db) (.slice qn nb.length dn) (.slice qz zb.length dz)).toArray 30)).cell? ⟨B + 1, 2, none⟩ = some (.slice qn nb.length dn) := by rw [k1.cell]; rfl
  have cb3 : ((w.alloc (.cells (cellsV ia (.slice pb la.length cb) (.slice pn na.length cn) (.slice pz za.length cz)).toArray 30)).alloc (.cells (cellsV ib (.slice qb lb.length db) (.slice qn nb.length dn) (.slice qz zb.length dz)).toArray 30)).cell? ⟨B + 1, 3, none⟩ = some (.slice qz zb.length dz) := by rw [k1.cell]; rfl
  clear k0 k1 sb sn sz tb tn tz ha hb hr
  by_cases q0 : ia = ib
  rotate_left
  · have HN := Lib.hid (same_no HR.out (fun h => q0 h.1))
    have e0 : ((ia : Int) != (ib : Int)) = true := by simp; omega
    clear q0 h1 h2 h3
    go_enter Try.func23, Try.ntmps23
    go_wp2
    go_ret
    exact ⟨congrArg (fun x => Ending.returned (.bool x)) HN.out, KB.out⟩
  subst q0
  by_cases q1 : la.length = lb.length
  rotate_left
  · have HN := Lib.hid (same_no HR.out (fun h => q1 (congrArg List.length h.2.1)))
    have e1 : ((la.length : Int) != (lb.length : Int)) = true := by simp; omega
    clear q1 h1 h2 h3
    go_enter Try.func23, Try.ntmps23
    go_wp2
    go_ret
    exact ⟨congrArg (fun x => Ending.returned (.bool x)) HN.out, KB.out⟩
  have L1 := Lib.hid q1
  rw [← q1] at K0 K1 KB ca0 ca1 ca2 ca3 cb0 cb1 cb2 cb3 ⊢
  clear q1
  by_cases q2 : na.length = nb.length
  rotate_left
  · have HN := Lib.hid (same_no HR.out (fun h => q2 (congrArg List.length h.2.2.1)))
    have e2 : ((na.length : Int) != (nb.length : Int)) = true := by simp; omega
    clear q2 h1 h2 h3
    go_enter Try.func23, Try.ntmps23
    go_wp2
    go_ret
    exact ⟨congrArg (fun x => Ending.returned (.bool x)) HN.out, KB.out⟩
  have L2 := Lib.hid q2
  rw [← q2] at K0 K1 KB ca0 ca1 ca2 ca3 cb0 cb1 cb2 cb3 ⊢
  clear q2
  by_cases q3 : za.length = zb.length
  rotate_left
  · have HN := Lib.hid (same_no HR.out (fun h => q3 (congrArg List.length h.2.2.2)))
    have e3 : ((za.length : Int) != (zb.length : Int)) = true := by simp; omega
    clear q3 h1 h2 h3
    go_enter Try.func23, Try.ntmps23
    go_wp2
    go_ret
    exact ⟨congrArg (fun x => Ending.returned (.bool x)) HN.out, KB.out⟩
  have L3 := Lib.hid q3
  rw [← q3] at K0 K1 KB ca0 ca1 ca2 ca3 cb0 cb1 cb2 cb3 ⊢
  clear q3
  go_enter Try.func23, Try.ntmps23
  go_wp2
  go_loopw [5] (fun i wr => ∃ j : Nat, j ≤ la.length ∧ i = .int .i64 (j : Int) ∧ (∀ k, k < j → la.getD k [] = lb.getD k []) ∧ Blk wr B 30 (cellsV ia (.slice pb la.length cb) (.slice pn na.length cn) (.slice pz za.length cz)) ∧ Blk wr (B + 1) 30 (cellsV ia (.slice qb la.length db) (.slice qn na.length dn) (.slice qz za.length dz)) ∧ Below w.heap.size w wr) (fun i _ => la.length - (intOf i).toNat)
  case atStart => exact ⟨0, by omega, rfl, (fun k h => by omega), K0.out, K1.out, KB.out⟩
  case round =>
    obtain ⟨j, hj, rfl, hf, b0, b1, gb⟩ := hrel
    clear K0 K1 KB
    have HF := Lib.hid hf
    have B0 := Lib.hid b0
    have B1 := Lib.hid b1
    have GB := Lib.hid gb
    have x0 := b0.cell 1
    have x1 := b1.cell 1
    simp only [cellsV, List.getElem?_cons_zero, List.getElem?_cons_succ] at x0 x1
    clear hf b0 b1 gb
    by_cases hlt : j < la.length
    · have hltb : j < lb.length := by rw [← L1.out]; exact hlt
      have dj : (j : Int) < (la.length : Int) := by omega
      obtain ⟨a1, rfl, _⟩ := (SB.out.below GB.out).row (rowsH_at hlt)
      obtain ⟨a2, rfl, _⟩ := (TB.out.below GB.out).row (rowsH_at hltb)
      have R0 : Hid (∀ wx, (∃ m, wx = wr.drewN m) → ∀ i v, (rowH (la.getD j []))[i]? = some v → wx.cell? ((a1.add (j * 32)).add i) = some v) := Lib.hid fun wx hx => by
        obtain ⟨k, rfl⟩ := hx
        obtain ⟨a', e, hc⟩ := (SB.out.below (below_drewN GB.out k)).row (rowsH_at hlt)
        cases e
        exact hc
      have R1 : Hid (∀ wx, (∃ m, wx = wr.drewN m) → ∀ i v, (rowH (lb.getD j []))[i]? = some v → wx.cell? ((a2.add (j * 32)).add i) = some v) := Lib.hid fun wx hx => by
        obtain ⟨k, rfl⟩ := hx
        obtain ⟨a', e, hc⟩ := (TB.out.below (below_drewN GB.out k)).row (rowsH_at hltb)
        cases e
        exact hc
      have hx1 := (HA.out.2.1 _ (getN_mem hlt)).1
      have hx2 := (HB.out.2.1 _ (getN_mem hltb)).1
      obtain ⟨eq, heq⟩ : ∃ eq : Bool, (nn (la.getD j []) == nn (lb.getD j [])) = !eq := ⟨!(nn (la.getD j []) == nn (lb.getD j [])), by simp⟩
      have hne := neq_hash (la.getD j []) (lb.getD j []) hx1 hx2 eq heq
      have hl0 : (rowH (la.getD j [])).length = 32 := rowH_len hx1
      have hl1 : (rowH (lb.getD j [])).length = 32 := rowH_len hx2
      have HEQ : Hid (eq = false ↔ la.getD j [] = lb.getD j []) := Lib.hid (by
        cases eq with
        | false => exact ⟨fun _ => nn_inj (by simpa using heq), fun _ => rfl⟩
        | true => exact ⟨fun h => (by cases h), fun h => by rw [h] at heq; simp at heq⟩)
      have hne2 : ∀ w, (binOp .neq 34 (.agg (rowH (la.getD j [])).toArray) (.agg (rowH (lb.getD j [])).toArray)).run Try.prog w = .ok (.bool eq) w := hne
      generalize rowH (la.getD j []) = X at *
      generalize rowH (lb.getD j []) = Y at *
      clear hne heq hx1 hx2
      have P0 : Hid (∀ wx, (∃ m, wx = wr.drewN m) → wx.cell? ⟨B, 1, none⟩ = some (.slice (some a1) la.length cb)) := Lib.hid fun wx hx => by
        obtain ⟨k, rfl⟩ := hx
        exact x0
      have P1 : Hid (∀ wx, (∃ m, wx = wr.drewN m) → wx.cell? ⟨B + 1, 1, none⟩ = some (.slice (some a2) la.length db)) := Lib.hid fun wx hx => by
        obtain ⟨k, rfl⟩ := hx
        exact x1
      go_wp2_with fail
      refine region_drew_tail 10 mixed (by kernel_rfl) ?_
      simp only [List.take_succ_cons, List.take_zero, List.drop_succ_cons, List.drop_zero]
      repeat (first | (refine wpQuiet_load_addr rfl 34 _ rfl (a1.add (j * 32)) rfl X R0.out Try.underlying34 rfl (by rw [size_hashV, hl0]) ?_) | (refine wpQuiet_load_addr rfl 34 _ rfl (a2.add (j * 32)) rfl Y R1.out Try.underlying34 rfl (by rw [size_hashV, hl1]) ?_) | (refine wpQuiet_load_one rfl 26 _ rfl ⟨B, 1, none⟩ rfl _ P0.out Try.underlying26 rfl ?_) | (refine wpQuiet_load_one rfl 26 _ rfl ⟨B + 1, 1, none⟩ rfl _ P1.out Try.underlying26 rfl ?_) | go_big_quiet_step (fail) | (refine wpQuiet_step (fun K' hK' => ?_); go_simp; first | (refine hK' _ ?_; clear hK' K') | (refine ⟨_, fun _ _ => rfl, hK' _ ?_⟩; clear hK' K')))
      refine wpQuiet_nil ?_
      rintro w7 ⟨k7, rfl⟩
      have D7 := Lib.hid (below_drewN GB.out k7)
      have E0 := Lib.hid (B0.out.drewN k7)
      have E1 := Lib.hid (B1.out.drewN k7)
      cases eq with
      | false =>
        have hq := HEQ.out.1 rfl
        have HQ := Lib.hid hq
        clear hq
        go_wp2
        go_roundw
        case rel => exact ⟨j + 1, by omega, by go_num, (fun k hk => by
          rcases Nat.lt_or_ge k j with h | h
          · exact HF.out k h
          · obtain rfl : k = j := by omega
            exact HQ.out), E0.out, E1.out, D7.out⟩
        case measure => (simp [intOf]; try omega)
      | true =>
        have HN := Lib.hid (same_no HR.out (fun h => by have h2 := HEQ.out.2 (by rw [show la = lb from h.2.1]); cases h2))
        go_wp2
        go_ret
        exact ⟨congrArg (fun x => Ending.returned (.bool x)) HN.out, D7.out⟩
    · obtain rfl : j = la.length := by omega
      have Q1 := Lib.hid (listN_ext L1.out HF.out)
      clear HF hj hlt
      go_wp2
      go_loopw [6] (fun i wr => ∃ j : Nat, j ≤ na.length ∧ i = .int .i64 (j : Int) ∧ (∀ k, k < j → na.getD k [] = nb.getD k []) ∧ Blk wr B 30 (cellsV ia (.slice pb la.length cb) (.slice pn na.length cn) (.slice pz za.length cz)) ∧ Blk wr (B + 1) 30 (cellsV ia (.slice qb la.length db) (.slice qn na.length dn) (.slice qz za.length dz)) ∧ Below w.heap.size w wr) (fun i _ => na.length - (intOf i).toNat)
      case atStart => exact ⟨0, by omega, rfl, (fun k h => by omega), B0.out, B1.out, GB.out⟩
      case round =>
        obtain ⟨j, hj, rfl, hf, b0, b1, gb⟩ := hrel
        clear B0 B1 GB
        have HF := Lib.hid hf
        have B0 := Lib.hid b0
        have B1 := Lib.hid b1
        have GB := Lib.hid gb
        have x0 := b0.cell 2
        have x1 := b1.cell 2
        simp only [cellsV, List.getElem?_cons_zero, List.getElem?_cons_succ] at x0 x1
        clear hf b0 b1 gb
        by_cases hlt : j < na.length
        · have hltb : j < nb.length := by rw [← L2.out]; exact hlt
          have dj : (j : Int) < (na.length : Int) := by omega
          obtain ⟨a1, rfl, _⟩ := SlS.cell (SN.out.below GB.out) hlt
          obtain ⟨a2, rfl, _⟩ := SlS.cell (TN.out.below GB.out) hltb
          have R0 : Hid (∀ wx, (∃ m, wx = wr.drewN m) → wx.cell? (a1.add j) = some (.string (tx (na.getD j [])))) := Lib.hid fun wx hx => by
            obtain ⟨k, rfl⟩ := hx
            obtain ⟨a', e, hc⟩ := SlS.cell (SN.out.below (below_drewN GB.out k)) hlt
            cases e
            exact hc
          have R1 : Hid (∀ wx, (∃ m, wx = wr.drewN m) → wx.cell? (a2.add j) = some (.string (tx (nb.getD j [])))) := Lib.hid fun wx hx => by
            obtain ⟨k, rfl⟩ := hx
            obtain ⟨a', e, hc⟩ := SlS.cell (TN.out.below (below_drewN GB.out k)) hltb
            cases e
            exact hc
          have hy1 := HA.out.2.2.1 _ (getN_mem hlt)
          have hy2 := HB.out.2.2.1 _ (getN_mem hltb)
          obtain ⟨eq, heq⟩ : ∃ eq : Bool, ((tx (na.getD j [])).toList == (tx (nb.getD j [])).toList) = eq := ⟨_, rfl⟩
          have HEQ : Hid (eq = true ↔ na.getD j [] = nb.getD j []) := Lib.hid (by
            by_cases h : na.getD j [] = nb.getD j []
            · rw [h, txt_same] at heq
              exact ⟨fun _ => h, fun _ => heq.symm⟩
            · rw [txt_ne (fun e => h (by rw [← sl_tx hy1, ← sl_tx hy2, e]))] at heq
              exact ⟨fun e => (by rw [← heq] at e; cases e), fun e => absurd e h⟩)
          generalize tx (na.getD j []) = X at *
          generalize tx (nb.getD j []) = Y at *
          clear hy1 hy2
          have P0 : Hid (∀ wx, (∃ m, wx = wr.drewN m) → wx.cell? ⟨B, 2, none⟩ = some (.slice (some a1) na.length cn)) := Lib.hid fun wx hx => by
            obtain ⟨k, rfl⟩ := hx
            exact x0
          have P1 : Hid (∀ wx, (∃ m, wx = wr.drewN m) → wx.cell? ⟨B + 1, 2, none⟩ = some (.slice (some a2) na.length dn)) := Lib.hid fun wx hx => by
            obtain ⟨k, rfl⟩ := hx
            exact x1
          go_wp2_with fail
          refine region_drew_tail 10 mixed (by kernel_rfl) ?_
          simp only [List.take_succ_cons, List.take_zero, List.drop_succ_cons, List.drop_zero]
          repeat (first | (refine wpQuiet_load_one rfl 9 _ rfl (a1.add j) rfl _ R0.out Try.underlying9 rfl ?_) | (refine wpQuiet_load_one rfl 9 _ rfl (a2.add j) rfl _ R1.out Try.underlying9 rfl ?_) | (refine wpQuiet_load_one rfl 27 _ rfl ⟨B, 2, none⟩ rfl _ P0.out Try.underlying27 rfl ?_) | (refine wpQuiet_load_one rfl 27 _ rfl ⟨B + 1, 2, none⟩ rfl _ P1.out Try.underlying27 rfl ?_) | go_big_quiet_step (fail) | (refine wpQuiet_step (fun K' hK' => ?_); go_simp; first | (refine hK' _ ?_; clear hK' K') | (refine ⟨_, fun _ _ => rfl, hK' _ ?_⟩; clear hK' K')))
          refine wpQuiet_nil ?_
          rintro w7 ⟨k7, rfl⟩
          have D7 := Lib.hid (below_drewN GB.out k7)
          have E0 := Lib.hid (B0.out.drewN k7)
          have E1 := Lib.hid (B1.out.drewN k7)
          cases eq with
          | false =>
            have HN := Lib.hid (same_no HR.out (fun h => by have h2 := HEQ.out.2 (by rw [show na = nb from h.2.2.1]); cases h2))
            go_wp2
            go_ret
            exact ⟨congrArg (fun x => Ending.returned (.bool x)) HN.out, D7.out⟩
          | true =>
            have hq := HEQ.out.1 rfl
            have HQ := Lib.hid hq
            clear hq
            go_wp2
            go_roundw
            case rel => exact ⟨j + 1, by omega, by go_num, (fun k hk => by
              rcases Nat.lt_or_ge k j with h | h
              · exact HF.out k h
              · obtain rfl : k = j := by omega
                exact HQ.out), E0.out, E1.out, D7.out⟩
            case measure => (simp [intOf]; try omega)
        · obtain rfl : j = na.length := by omega
          have Q2 := Lib.hid (listN_ext L2.out HF.out)
          clear HF hj hlt
          go_wp2
          go_loopw [7] (fun i wr => ∃ j : Nat, j ≤ za.length ∧ i = .int .i64 (j : Int) ∧ (∀ k, k < j → za.getD k 0 = zb.getD k 0) ∧ Blk wr B 30 (cellsV ia (.slice pb la.length cb) (.slice pn na.length cn) (.slice pz za.length cz)) ∧ Blk wr (B + 1) 30 (cellsV ia (.slice qb la.length db) (.slice qn na.length dn) (.slice qz za.length dz)) ∧ Below w.heap.size w wr) (fun i _ => za.length - (intOf i).toNat)
          case atStart => exact ⟨0, by omega, rfl, (fun k h => by omega), B0.out, B1.out, GB.out⟩
          case round =>
            obtain ⟨j, hj, rfl, hf, b0, b1, gb⟩ := hrel
            clear B0 B1 GB
            have HF := Lib.hid hf
            have B0 := Lib.hid b0
            have B1 := Lib.hid b1
            have GB := Lib.hid gb
            have x0 := b0.cell 3
            have x1 := b1.cell 3
            simp only [cellsV, List.getElem?_cons_zero, List.getElem?_cons_succ] at x0 x1
            clear hf b0 b1 gb
            by_cases hlt : j < za.length
            · have hltb : j < zb.length := by rw [← L3.out]; exact hlt
              have dj : (j : Int) < (za.length : Int) := by omega
              obtain ⟨a1, rfl, _⟩ := SlZF.cell (SZ.out.below GB.out) hlt
              obtain ⟨a2, rfl, _⟩ := SlZF.cell (l := zb) (j := j) (TZ.out.below GB.out) hltb
              have R0 : Hid (∀ wx, (∃ m, wx = wr.drewN m) → wx.cell? (a1.add j) = some (.int .i64 (za.getD j 0))) := Lib.hid fun wx hx => by
                obtain ⟨k, rfl⟩ := hx
                obtain ⟨a', e, hc⟩ := SlZF.cell (SZ.out.below (below_drewN GB.out k)) hlt
                cases e
                exact hc
              have R1 : Hid (∀ wx, (∃ m, wx = wr.drewN m) → wx.cell? (a2.add j) = some (.int .i64 (zb.getD j 0))) := Lib.hid fun wx hx => by
                obtain ⟨k, rfl⟩ := hx
                obtain ⟨a', e, hc⟩ := SlZF.cell (TZ.out.below (below_drewN GB.out k)) hltb
                cases e
                exact hc
              obtain ⟨eq, heq⟩ : ∃ eq : Bool, ((za.getD j 0) != (zb.getD j 0)) = eq := ⟨_, rfl⟩
              have HEQ : Hid (eq = false ↔ za.getD j 0 = zb.getD j 0) := Lib.hid (by rw [← heq]; simp)
              obtain ⟨X, hX⟩ : ∃ X, za.getD j 0 = X := ⟨_, rfl⟩
              obtain ⟨Y, hY⟩ : ∃ Y, zb.getD j 0 = Y := ⟨_, rfl⟩
              have HX := Lib.hid hX
              have HY := Lib.hid hY
              rw [hX] at R0 heq
              rw [hY] at R1 heq
              clear hX hY
              have P0 : Hid (∀ wx, (∃ m, wx = wr.drewN m) → wx.cell? ⟨B, 3, none⟩ = some (.slice (some a1) za.length cz)) := Lib.hid fun wx hx => by
                obtain ⟨k, rfl⟩ := hx
                exact x0
              have P1 : Hid (∀ wx, (∃ m, wx = wr.drewN m) → wx.cell? ⟨B + 1, 3, none⟩ = some (.slice (some a2) za.length dz)) := Lib.hid fun wx hx => by
                obtain ⟨k, rfl⟩ := hx
                exact x1
              go_wp2_with fail
              refine region_drew_tail 10 mixed (by kernel_rfl) ?_
              simp only [List.take_succ_cons, List.take_zero, List.drop_succ_cons, List.drop_zero]
              repeat (first | (refine wpQuiet_load_one rfl 3 _ rfl (a1.add j) rfl _ R0.out Try.underlying3 rfl ?_) | (refine wpQuiet_load_one rfl 3 _ rfl (a2.add j) rfl _ R1.out Try.underlying3 rfl ?_) | (refine wpQuiet_load_one rfl 28 _ rfl ⟨B, 3, none⟩ rfl _ P0.out Try.underlying28 rfl ?_) | (refine wpQuiet_load_one rfl 28 _ rfl ⟨B + 1, 3, none⟩ rfl _ P1.out Try.underlying28 rfl ?_) | go_big_quiet_step (fail) | (refine wpQuiet_step (fun K' hK' => ?_); go_simp; first | (refine hK' _ ?_; clear hK' K') | (refine ⟨_, fun _ _ => rfl, hK' _ ?_⟩; clear hK' K')))
              refine wpQuiet_nil ?_
              rintro w7 ⟨k7, rfl⟩
              have D7 := Lib.hid (below_drewN GB.out k7)
              have E0 := Lib.hid (B0.out.drewN k7)
              have E1 := Lib.hid (B1.out.drewN k7)
              cases eq with
              | false =>
                have hq := HEQ.out.1 rfl
                have HQ := Lib.hid hq
                clear hq
                go_wp2
                go_roundw
                case rel => exact ⟨j + 1, by omega, by go_num, (fun k hk => by
                  rcases Nat.lt_or_ge k j with h | h
                  · exact HF.out k h
                  · obtain rfl : k = j := by omega
                    exact HQ.out), E0.out, E1.out, D7.out⟩
                case measure => (simp [intOf]; try omega)
              | true =>
                have HN := Lib.hid (same_no HR.out (fun h => by have h2 := HEQ.out.2 (by rw [show za = zb from h.2.2.2]); cases h2))
                go_wp2
                go_ret
                exact ⟨congrArg (fun x => Ending.returned (.bool x)) HN.out, D7.out⟩
            · obtain rfl : j = za.length := by omega
              have Q3 := Lib.hid (listZ_ext L3.out HF.out)
              clear HF hj hlt
              go_wp2
              go_ret
              have HY := (same_iff (a := ⟨ia, la, na, za⟩) (b := ⟨ia, lb, nb, zb⟩)).2 ⟨rfl, Q1.out, Q2.out, Q3.out⟩
              rw [HR.out] at HY
              exact ⟨congrArg (fun x => Ending.returned (.bool x)) HY.symm, GB.out⟩
end Go.Proofs.Ytloogjdojojehaa
namespace Go.Proofs.Ytloogjdojojehaa
set_option linter.unusedVariables false

/-- what a reading tells: the version, the bytes behind it, the error -/
abbrev TellV := RawV × List Nat × Nat
def errV (e : Nat) : TellV := (noV, [], e)
/-- the files, k of them to come -/
def tellD (i : Nat) (bl : List (List Nat)) (ns : List (List Nat)) (zs : List Int) : Nat → List Nat → TellV
  | 0, s => if mayH bl.length ns zs then (⟨i, bl, ns, zs⟩, s, 0) else errV 1
  | k + 1, s =>
    if (readL s).2.2 ≠ 0 then errV (readL s).2.2
    else if (getL (readL s).2.1).2.2 ≠ 0 then errV (getL (readL s).2.1).2.2
    else if 300 < (getL (readL s).2.1).1 then errV 111
    else tellD i bl (ns ++ [(readL s).1]) (zs ++ [((getL (readL s).2.1).1 : Int)]) k ((readL s).2.1.drop (getL (readL s).2.1).2.1)
def tellC (i : Nat) (bl : List (List Nat)) (s : List Nat) : TellV :=
  if (getL s).2.2 ≠ 0 then errV (getL s).2.2 else if 12 < (getL s).1 then errV 111 else tellD i bl [] [] (getL s).1 (s.drop (getL s).2.1)
/-- the blocks' names, n of them to come -/
def tellB (i : Nat) (bl : List (List Nat)) : Nat → List Nat → TellV
  | 0, s => tellC i bl s
  | n + 1, s => if s.length < 32 then errV 40 else tellB i (bl ++ [s.take 32]) n (s.drop 32)
def tellA (s : List Nat) : TellV :=
  if s.length < 4 then errV 40
  else if (getL (s.drop 4)).2.2 ≠ 0 then errV (getL (s.drop 4)).2.2
  else if 16 < (getL (s.drop 4)).1 then errV 111
  else tellB (fixN s 4) [] (getL (s.drop 4)).1 ((s.drop 4).drop (getL (s.drop 4)).2.1)
def rawOf (v : VerH) : RawV := ⟨v.id, v.blocks, v.names, v.sizes⟩
theorem rawOf_ver (v : VerH) : (rawOf v).ver = v := by
  obtain ⟨i, bl, fs⟩ := v
  unfold RawV.ver rawOf VerH.names VerH.sizes
  simp only [VerH.mk.injEq, true_and, List.map_map]
  induction fs with
  | nil => rfl
  | cons f fs ih => simp only [List.map_cons, List.zip_cons_cons, ih]; rfl
/-- what is told by the codec -/
def told (x : Except Nat (VerH × List Nat)) : TellV := match x with | .ok (v, r) => (rawOf v, r, 0) | .error e => errV e
theorem read_textP (s : List Nat) : textP s = if (readL s).2.2 ≠ 0 then .error (readL s).2.2 else .ok ((readL s).1, (readL s).2.1) := by
  unfold textP depP getP readL
  by_cases h : (getL s).2.2 = 0
  · have h' : ¬ (getL s).2.2 ≠ 0 := by simpa using h
    rw [if_pos h]
    simp only [if_neg h']
    unfold rawP
    by_cases h2 : (s.drop (getL s).2.1).length < (getL s).1
    · simp only [if_pos h2]; rfl
    · simp only [if_neg h2]; rfl
  · rw [if_neg h]
    simp only [if_pos h]
theorem get_two {s : List Nat} : getP s = if (getL s).2.2 ≠ 0 then .error (getL s).2.2 else .ok ((getL s).1, s.drop (getL s).2.1) := by
  unfold getP
  by_cases h : (getL s).2.2 = 0
  · rw [if_pos h, if_neg (by simpa using h)]
  · rw [if_neg h, if_pos h]
theorem fileP_is (s : List Nat) : fileP s = if (readL s).2.2 ≠ 0 then .error (readL s).2.2 else if (getL (readL s).2.1).2.2 ≠ 0 then .error (getL (readL s).2.1).2.2 else if 300 < (getL (readL s).2.1).1 then .error 111 else .ok (((readL s).1, (getL (readL s).2.1).1), (readL s).2.1.drop (getL (readL s).2.1).2.1) := by
  unfold fileP pairP guardP
  rw [read_textP]
  by_cases h1 : (readL s).2.2 ≠ 0
  · simp only [if_pos h1]
  · simp only [if_neg h1]
    rw [get_two]
    by_cases h2 : (getL (readL s).2.1).2.2 ≠ 0
    · simp only [if_pos h2]
    · simp only [if_neg h2]
      by_cases h3 : 300 < (getL (readL s).2.1).1
      · rw [if_pos h3, if_neg (by simp; omega)]
      · rw [if_neg h3, if_pos (by simp; omega)]
theorem tellD_is (i : Nat) (bl : List (List Nat)) : ∀ (k : Nat) (s : List Nat) (fs : List (List Nat × Nat)),
    tellD i bl (fs.map (·.1)) (fs.map fun f => (f.2 : Int)) k s = (match manyP fileP k s with
      | .error e => errV e
      | .ok (l, r) => told (if VerH.may ⟨i, bl, fs ++ l⟩ then .ok (⟨i, bl, fs ++ l⟩, r) else .error 1))
  | 0, s, fs => by
    unfold tellD manyP
    simp only [List.append_nil]
    by_cases h : VerH.may ⟨i, bl, fs⟩ = true
    · rw [if_pos h]
      unfold VerH.may VerH.names VerH.sizes at h
      rw [if_pos h]
      rfl
    · rw [if_neg h]
      unfold VerH.may VerH.names VerH.sizes at h
      rw [if_neg h]
      rfl
  | k + 1, s, fs => by
    have ih := tellD_is i bl k ((readL s).2.1.drop (getL (readL s).2.1).2.1) (fs ++ [((readL s).1, (getL (readL s).2.1).1)])
    simp only [List.map_append, List.map_cons, List.map_nil] at ih
    rw [tellD, manyP, fileP_is]
    by_cases h1 : (readL s).2.2 ≠ 0
    · simp only [if_pos h1]
    · simp only [if_neg h1]
      by_cases h2 : (getL (readL s).2.1).2.2 ≠ 0
      · simp only [if_pos h2]
      · simp only [if_neg h2]
        by_cases h3 : 300 < (getL (readL s).2.1).1
        · simp only [if_pos h3]
        · simp only [if_neg h3]
          rw [ih]
          cases manyP fileP k ((readL s).2.1.drop (getL (readL s).2.1).2.1) with
          | error e => rfl
          | ok z =>
            obtain ⟨l, r⟩ := z
            simp only [List.append_assoc, List.singleton_append]
theorem count_is {α : Type} (p : List Nat → Except Nat (α × List Nat)) (n : Nat) (s : List Nat) : countP p n 111 s = if (getL s).2.2 ≠ 0 then .error (getL s).2.2 else if n < (getL s).1 then .error 111 else manyP p (getL s).1 (s.drop (getL s).2.1) := by
  unfold countP depP guardP
  rw [get_two]
  by_cases h1 : (getL s).2.2 ≠ 0
  · simp only [if_pos h1]
  · simp only [if_neg h1]
    by_cases h3 : n < (getL s).1
    · rw [if_pos h3, if_neg (by simp; omega)]
    · rw [if_neg h3, if_pos (by simp; omega)]
theorem tellC_is (i : Nat) (bl : List (List Nat)) (s : List Nat) : tellC i bl s = (match countP fileP 12 111 s with
      | .error e => errV e
      | .ok (l, r) => told (if VerH.may ⟨i, bl, l⟩ then .ok (⟨i, bl, l⟩, r) else .error 1)) := by
  have := tellD_is i bl (getL s).1 (s.drop (getL s).2.1) []
  simp only [List.map_nil, List.nil_append] at this
  unfold tellC
  rw [count_is]
  by_cases h1 : (getL s).2.2 ≠ 0
  · simp only [if_pos h1]
  · simp only [if_neg h1]
    by_cases h3 : 12 < (getL s).1
    · simp only [if_pos h3]
    · simp only [if_neg h3]
      rw [this]
theorem tellB_is (i : Nat) : ∀ (n : Nat) (s : List Nat) (bl : List (List Nat)), tellB i bl n s = (match manyP (rawP 32) n s with
      | .error e => errV e
      | .ok (l, r) => tellC i (bl ++ l) r)
  | 0, s, bl => by unfold tellB manyP; simp
  | n + 1, s, bl => by
    have ih := tellB_is i n (s.drop 32) (bl ++ [s.take 32])
    have hr : rawP 32 s = if s.length < 32 then .error 40 else .ok (s.take 32, s.drop 32) := rfl
    rw [tellB, manyP, hr]
    by_cases h : s.length < 32
    · simp only [if_pos h]
    · simp only [if_neg h]
      rw [ih]
      cases manyP (rawP 32) n (s.drop 32) with
      | error e => rfl
      | ok z =>
        obtain ⟨l, r⟩ := z
        simp only [List.append_assoc, List.singleton_append]
theorem read_facts {s : List Nat} (h : Bys s) (hl : s.length ≤ 65536) : Bys (readL s).1 ∧ Bys (readL s).2.1 ∧ (readL s).2.1.length ≤ 65536 ∧ (readL s).1.length ≤ 65536 := by
  have h0 : Bys [] := Bys.of fun y hy => by cases hy
  have h1 : (s.drop (getL s).2.1).length ≤ 65536 := by rw [List.length_drop]; omega
  unfold readL
  split
  · exact ⟨h0, h0, by simp, by simp⟩
  · split
    · exact ⟨h0, h0, by simp, by simp⟩
    · refine ⟨(h.drop _).take _, (h.drop _).drop _, ?_, ?_⟩
      · show ((s.drop (getL s).2.1).drop (getL s).1).length ≤ 65536
        rw [List.length_drop]; omega
      · show ((s.drop (getL s).2.1).take (getL s).1).length ≤ 65536
        rw [List.length_take]; omega
/-- THE FACT: step by step it is what the codec reads -/
theorem tellA_is (s : List Nat) : tellA s = told (verP s) := by
  unfold tellA verP partsP pairP fixP
  by_cases h0 : s.length < 4
  · simp only [if_pos h0]; rfl
  · simp only [if_neg h0]
    rw [count_is]
    by_cases h1 : (getL (s.drop 4)).2.2 ≠ 0
    · simp only [if_pos h1]; rfl
    · simp only [if_neg h1]
      by_cases h3 : 16 < (getL (s.drop 4)).1
      · simp only [if_pos h3]; rfl
      · simp only [if_neg h3]
        rw [tellB_is]
        simp only [List.nil_append]
        cases manyP (rawP 32) (getL (s.drop 4)).1 ((s.drop 4).drop (getL (s.drop 4)).2.1) with
        | error e => rfl
        | ok z =>
          obtain ⟨bl, r⟩ := z
          simp only
          rw [tellC_is]
          cases countP fileP 12 111 r with
          | error e => rfl
          | ok z => rfl
end Go.Proofs.Ytloogjdojojehaa
namespace Go.Proofs.Ytloogjdojojehaa
open Go.RowKit
set_option linter.unusedVariables false

/-- the cells of no version -/
def zV : List Value := cellsV 0 (.slice none 0 0) (.slice none 0 0) (.slice none 0 0)
theorem zV_one : zV.toArray.all (·.oneCell') = true := cellsV_one 0 none none none 0 0 0 0 0 0
theorem alloc_ver (w : World) : (Instr.alloc 30 true (.tuple #[])).run Try.prog w = .ok (.pointer (some ⟨w.heap.size, 0, none⟩)) (w.alloc (.cells zV.toArray 30)) := by kernel_rfl
theorem build_ver (w : World) : (Instr.build 30 #[]).run Try.prog w = .ok (.agg zV.toArray) w := by kernel_rfl
/-- R: the result's block; V: the version's -/
structure RdM (w : World) (R V : Nat) (wx : World) (i : Nat) (vb vn vz : Value) (bl ns : List (List Nat)) (zs : List Int) : Prop where
  low : w.heap.size ≤ R ∧ w.heap.size ≤ V ∧ R ≠ V
  res : Blk wx R 30 zV
  ver : Blk wx V 30 (cellsV i vb vn vz)
  ob : OwnR wx w.heap.size 34 32 vb (rowsH bl)
  on : OwnR wx w.heap.size 9 1 vn (rowsS ns)
  oz : OwnR wx w.heap.size 3 1 vz (rowsZF zs)
  bel : Below w.heap.size w wx
section
variable {w wx wy : World} {R V i : Nat} {vb vn vz : Value} {bl ns : List (List Nat)} {zs : List Int}
theorem RdM.keep (h : RdM w R V wx i vb vn vz bl ns zs) (hb : Below wx.heap.size wx wy) : RdM w R V wy i vb vn vz bl ns zs :=
  ⟨h.low, h.res.below hb h.res.lt, h.ver.below hb h.ver.lt, h.ob.keep hb, h.on.keep hb, h.oz.keep hb, h.bel.trans (hb.mono h.bel.size)⟩
theorem RdM.alloc (h : RdM w R V wx i vb vn vz bl ns zs) (o : Obj) : RdM w R V (wx.alloc o) i vb vn vz bl ns zs := h.keep ((Below.refl _ _).alloc (Nat.le_refl _) o)
theorem RdM.shapes (h : RdM w R V wx i vb vn vz bl ns zs) : (∃ p c, vb = .slice p bl.length c) ∧ (∃ p c, vn = .slice p ns.length c) ∧ (∃ p c, vz = .slice p zs.length c) := by
  have q1 := h.ob.isSlice
  have q2 := h.on.isSlice
  have q3 := h.oz.isSlice
  rw [rowsH_len] at q1
  rw [rowsS_len] at q2
  rw [rowsZF_len] at q3
  exact ⟨q1, q2, q3⟩
theorem RdM.vv (h : RdM w R V wx i vb vn vz bl ns zs) : VV wx (.agg (cellsV i vb vn vz).toArray) ⟨i, bl, ns, zs⟩ :=
  ⟨vb, vn, vz, rfl, h.shapes.1, h.shapes.2.1, h.shapes.2.2, h.ob.sl, h.on.sl, h.oz.sl⟩
/-- memory was made, and written to -/
theorem RdM.fresh (h : RdM w R V wx i vb vn vz bl ns zs) {c : Array Value} {t : TypeId} (cs : Array Value) : RdM w R V ((wx.alloc (.cells c t)).setRow wx.heap.size cs) i vb vn vz bl ns zs :=
  h.keep (below_setRow ((Below.refl _ _).alloc (Nat.le_refl _) _) (Nat.le_refl _) _)
theorem RdM.cellB (h : RdM w R V wx i vb vn vz bl ns zs) : wx.cell? ⟨V, 1, none⟩ = some vb := by rw [h.ver.cell]; rfl
theorem RdM.cellN (h : RdM w R V wx i vb vn vz bl ns zs) : wx.cell? ⟨V, 2, none⟩ = some vn := by rw [h.ver.cell]; rfl
theorem RdM.cellZ (h : RdM w R V wx i vb vn vz bl ns zs) : wx.cell? ⟨V, 3, none⟩ = some vz := by rw [h.ver.cell]; rfl
theorem RdM.free (h : RdM w R V wx i vb vn vz bl ns zs) (j : Nat) : wx.frozen? ⟨V, j, none⟩ = false := h.ver.free j
/-- the number is written -/
theorem RdM.setI (h : RdM w R V wx i vb vn vz bl ns zs) (k : Nat) : RdM w R V (wx.setCell ⟨V, 0, none⟩ (.int .u32 (k : Int))) k vb vn vz bl ns zs :=
  ⟨h.low, h.res.other (a := ⟨V, 0, none⟩) (fun e => h.low.2.2 e.symm) _, h.ver.set 0 _, h.ob.cellOther h.ver (by decide) 0 _, h.on.cellOther h.ver (by decide) 0 _, h.oz.cellOther h.ver (by decide) 0 _, h.bel.setCell (p := ⟨V, 0, none⟩) h.low.2.1 _⟩
/-- one more block's name, and where they lie -/
theorem RdM.addB (h : RdM w R V wx i vb vn vz bl ns zs) {v' : Value} {bl' : List (List Nat)} (ho : OwnR wy w.heap.size 34 32 v' (rowsH bl')) (hg : wx.grownBy wy vb.ownBlock) : RdM w R V (wy.setCell ⟨V, 1, none⟩ v') i v' vn vz bl' ns zs := by
  have r1 := h.res.grownO hg (h.ob.ne h.res (by decide))
  have v1 := h.ver.grownO hg (h.ob.ne h.ver (by decide))
  have n1 := h.on.grownO hg (h.on.apart h.ob (by decide))
  have z1 := h.oz.grownO hg (h.oz.apart h.ob (by decide))
  have b1 := h.bel.grown hg h.bel.size (fun k e => (h.ob.lt k e).1)
  exact ⟨h.low, r1.other (a := ⟨V, 1, none⟩) (fun e => h.low.2.2 e.symm) _, v1.set 1 _, ho.cellOther v1 (by decide) 1 _, n1.cellOther v1 (by decide) 1 _, z1.cellOther v1 (by decide) 1 _, b1.setCell (p := ⟨V, 1, none⟩) h.low.2.1 _⟩
theorem RdM.addN (h : RdM w R V wx i vb vn vz bl ns zs) {v' : Value} {ns' : List (List Nat)} (ho : OwnR wy w.heap.size 9 1 v' (rowsS ns')) (hg : wx.grownBy wy vn.ownBlock) : RdM w R V (wy.setCell ⟨V, 2, none⟩ v') i vb v' vz bl ns' zs := by
  have r1 := h.res.grownO hg (h.on.ne h.res (by decide))
  have v1 := h.ver.grownO hg (h.on.ne h.ver (by decide))
  have n1 := h.ob.grownO hg (h.ob.apart h.on (by decide))
  have z1 := h.oz.grownO hg (h.oz.apart h.on (by decide))
  have b1 := h.bel.grown hg h.bel.size (fun k e => (h.on.lt k e).1)
  exact ⟨h.low, r1.other (a := ⟨V, 2, none⟩) (fun e => h.low.2.2 e.symm) _, v1.set 2 _, n1.cellOther v1 (by decide) 2 _, ho.cellOther v1 (by decide) 2 _, z1.cellOther v1 (by decide) 2 _, b1.setCell (p := ⟨V, 2, none⟩) h.low.2.1 _⟩
theorem RdM.addZ (h : RdM w R V wx i vb vn vz bl ns zs) {v' : Value} {zs' : List Int} (ho : OwnR wy w.heap.size 3 1 v' (rowsZF zs')) (hg : wx.grownBy wy vz.ownBlock) : RdM w R V (wy.setCell ⟨V, 3, none⟩ v') i vb vn v' bl ns zs' := by
  have r1 := h.res.grownO hg (h.oz.ne h.res (by decide))
  have v1 := h.ver.grownO hg (h.oz.ne h.ver (by decide))
  have n1 := h.ob.grownO hg (h.ob.apart h.oz (by decide))
  have z1 := h.on.grownO hg (h.on.apart h.oz (by decide))
  have b1 := h.bel.grown hg h.bel.size (fun k e => (h.oz.lt k e).1)
  exact ⟨h.low, r1.other (a := ⟨V, 3, none⟩) (fun e => h.low.2.2 e.symm) _, v1.set 3 _, n1.cellOther v1 (by decide) 3 _, z1.cellOther v1 (by decide) 3 _, ho.cellOther v1 (by decide) 3 _, b1.setCell (p := ⟨V, 3, none⟩) h.low.2.1 _⟩
/-- before the cell is written, once more has been appended -/
theorem RdM.grownVB (h : RdM w R V wx i vb vn vz bl ns zs) (hg : wx.grownBy wy vb.ownBlock) : Blk wy V 30 (cellsV i vb vn vz) := h.ver.grownO hg (h.ob.ne h.ver (by decide))
theorem RdM.grownVN (h : RdM w R V wx i vb vn vz bl ns zs) (hg : wx.grownBy wy vn.ownBlock) : Blk wy V 30 (cellsV i vb vn vz) := h.ver.grownO hg (h.on.ne h.ver (by decide))
theorem RdM.grownVZ (h : RdM w R V wx i vb vn vz bl ns zs) (hg : wx.grownBy wy vz.ownBlock) : Blk wy V 30 (cellsV i vb vn vz) := h.ver.grownO hg (h.oz.ne h.ver (by decide))
/-- as it begins -/
theorem RdM.start (w : World) : RdM w w.heap.size (w.heap.size + 1) (((w.alloc (.cells zV.toArray 30)).alloc (.cells zV.toArray 30)).setRow (w.heap.size + 1) zV.toArray) 0 (.slice none 0 0) (.slice none 0 0) (.slice none 0 0) [] [] [] := by
  have k0 := (Blk.new' w 30 (c := zV.toArray) _ rfl).alloc (.cells zV.toArray 30)
  have k1 := Blk.newAt (w.alloc (.cells zV.toArray 30)) (w.heap.size + 1) (by simp) 30 (c := zV.toArray) _ rfl
  have kb := ((Below.refl w.heap.size w).alloc (Nat.le_refl _) (.cells zV.toArray 30)).alloc (by simp) (.cells zV.toArray 30)
  exact ⟨⟨Nat.le_refl _, by omega, by omega⟩, k0.rowOther (by omega) _, k1.row zV rfl, OwnR.nil _ _ _ _, OwnR.nil _ _ _ _, OwnR.nil _ _ _ _, below_setRow kb (by omega) _⟩
end
/-- the value v is this version, its slices the call's own -/
def VO (w : World) (base : Nat) (v : Value) (a : RawV) : Prop :=
  ∃ vb vn vz, v = .agg (cellsV a.id vb vn vz).toArray ∧ OwnR w base 34 32 vb (rowsH a.bl) ∧ OwnR w base 9 1 vn (rowsS a.ns) ∧ OwnR w base 3 1 vz (rowsZF a.zs)
section
variable {w w' : World} {base : Nat} {v : Value} {a : RawV}
theorem VO.vv (h : VO w base v a) : VV w v a := by
  obtain ⟨vb, vn, vz, e, h1, h2, h3⟩ := h
  have q1 := h1.isSlice
  have q2 := h2.isSlice
  have q3 := h3.isSlice
  rw [rowsH_len] at q1
  rw [rowsS_len] at q2
  rw [rowsZF_len] at q3
  exact ⟨vb, vn, vz, e, q1, q2, q3, h1.sl, h2.sl, h3.sl⟩
theorem VO.keep (h : VO w base v a) (hb : Below w.heap.size w w') : VO w' base v a := by
  obtain ⟨vb, vn, vz, e, h1, h2, h3⟩ := h
  exact ⟨vb, vn, vz, e, h1.keep hb, h2.keep hb, h3.keep hb⟩
theorem VO.row (h : VO w base v a) {r : Nat} (hr : r < base) (cs : Array Value) : VO (w.setRow r cs) base v a := by
  obtain ⟨vb, vn, vz, e, h1, h2, h3⟩ := h
  exact ⟨vb, vn, vz, e, h1.rowApart r cs (fun b hb => by have := (h1.lt b hb).1; omega), h2.rowApart r cs (fun b hb => by have := (h2.lt b hb).1; omega), h3.rowApart r cs (fun b hb => by have := (h3.lt b hb).1; omega)⟩
theorem VO.lower (h : VO w base v a) {base' : Nat} (hb : base' ≤ base) : VO w base' v a := by
  obtain ⟨vb, vn, vz, e, h1, h2, h3⟩ := h
  exact ⟨vb, vn, vz, e, h1.lower hb, h2.lower hb, h3.lower hb⟩
theorem VO.none (w : World) (base : Nat) : VO w base (.agg zV.toArray) noV := ⟨_, _, _, rfl, OwnR.nil _ _ _ _, OwnR.nil _ _ _ _, OwnR.nil _ _ _ _⟩
end
/-- what a reading gives back -/
def RdRet (T : TellV) (w : World) (e : Ending) (w' : World) : Prop :=
  ∃ v, e = .returned (.tuple #[v, .string (tx T.2.1), .int .i64 ((T.2.2 : Nat) : Int)]) ∧ VO w' w.heap.size v T.1 ∧ Below w.heap.size w w'
theorem rd_err (w w' : World) (er : Nat) (hb : Below w.heap.size w w') : RdRet (errV er) w (.returned (.tuple #[.agg zV.toArray, .string ⟨#[]⟩, .int .i64 (er : Int)])) w' :=
  ⟨_, by unfold errV; rw [tx_nil], VO.none w' _, hb⟩
theorem rd_ok {w wx : World} {R V i : Nat} {vb vn vz : Value} {bl ns : List (List Nat)} {zs : List Int} (h : RdM w R V wx i vb vn vz bl ns zs) (rs : List Nat) :
    RdRet (⟨i, bl, ns, zs⟩, rs, 0) w (.returned (.tuple #[.agg (cellsV i vb vn vz).toArray, .string (tx rs), .int .i64 0])) (wx.setRow R (cellsV i vb vn vz).toArray) :=
  ⟨_, rfl, ⟨vb, vn, vz, rfl, h.ob.rowApart R _ (h.ob.ne h.res (by decide)), h.on.rowApart R _ (h.on.ne h.res (by decide)), h.oz.rowApart R _ (h.oz.ne h.res (by decide))⟩, below_setRow h.bel h.low.1 _⟩
/-- what a decoding tells, and gives back -/
def decT (T : TellV) : RawV × Nat := if T.2.2 ≠ 0 then (noV, T.2.2) else if T.2.1.length ≠ 0 then (noV, 42) else (T.1, 0)
def DeRet (D : RawV × Nat) (w : World) (e : Ending) (w' : World) : Prop :=
  ∃ v, e = .returned (.tuple #[v, .int .i64 ((D.2 : Nat) : Int)]) ∧ VO w' w.heap.size v D.1 ∧ Below w.heap.size w w'
end Go.Proofs.Ytloogjdojojehaa
