/- Versions as values: their cells, their slices; as arguments; whether they may be, told by places. -/
import Derived.Test.YtahfjfhiejhddaaHNum
import Derived.Test.YtahfjfhiejhddaaFB
import Derived.Test.YtahfjfhiejhddaaDByt
import Derived.Test.YtahfjfhiejhddaaG2
import Derived.Lib.SmallJoins
import Derived.Deep.Slices
import Derived.Deep.Fields
namespace Go.Proofs.Ytahfjfhiejhddaa
open Go.RowKit Go.ChangeShapes Go.WideShapes
set_option linter.unusedVariables false

/-- a version, as it is told: no more is known of it -/
structure RawV where
  id : Nat
  bl : List (List Nat)
  ns : List (List Nat)
  zs : List Int
/-- hashes as rows -/
def rowH (x : List Nat) : List Value := ints .u8 (nn x)
def rowsH (l : List (List Nat)) : List (List Value) := l.map rowH
theorem rowsH_len (l : List (List Nat)) : (rowsH l).length = l.length := by simp [rowsH]
theorem rowsH_at {l : List (List Nat)} {j : Nat} (h : j < l.length) : (rowsH l)[j]? = some (rowH (l.getD j [])) := by simp [rowsH, h]
theorem rowsH_snoc (l : List (List Nat)) (x : List Nat) : rowsH (l ++ [x]) = rowsH l ++ [rowH x] := by simp [rowsH]
theorem rowH_len {x : List Nat} (h : x.length = 32) : (rowH x).length = 32 := by unfold rowH; rw [ints_length, nn_length, h]
theorem rowH_one (x : List Nat) : (rowH x).toArray.all (·.oneCell') = true := ints_one _ _
/-- hashes: of thirty-two bytes each -/
def HashL (l : List (List Nat)) : Prop := ∀ x ∈ l, x.length = 32 ∧ Bys x
/-- what is known of a version's parts -/
def RawV.ok (a : RawV) : Prop := a.id < 4294967296 ∧ HashL a.bl ∧ (∀ x ∈ a.ns, Bys x) ∧ (∀ z ∈ a.zs, (Lit.int .i64 z).wf = true)
/-- the version's cells -/
def cellsV (id : Nat) (vb vn vz : Value) : List Value := [.int .u32 (id : Int), vb, vn, vz]
/-- the value v is this version -/
def VV (w : World) (v : Value) (a : RawV) : Prop :=
  ∃ vb vn vz, v = .agg (cellsV a.id vb vn vz).toArray ∧ (∃ p c, vb = .slice p a.bl.length c) ∧ (∃ p c, vn = .slice p a.ns.length c) ∧ (∃ p c, vz = .slice p a.zs.length c) ∧ Sl w 32 vb (rowsH a.bl) ∧ Sl w 1 vn (rowsS a.ns) ∧ Sl w 1 vz (rowsZ a.zs)
theorem VV.below {w w' : World} {v : Value} {a : RawV} (h : VV w v a) (hb : Below w.heap.size w w') : VV w' v a := by
  obtain ⟨vb, vn, vz, e, q1, q2, q3, s1, s2, s3⟩ := h
  exact ⟨vb, vn, vz, e, q1, q2, q3, s1.below hb, s2.below hb, s3.below hb⟩
def noV : RawV := ⟨0, [], [], []⟩
theorem VV.none (w : World) : VV w (.agg #[.int .u32 0, .slice none 0 0, .slice none 0 0, .slice none 0 0]) noV :=
  ⟨_, _, _, rfl, ⟨_, _, rfl⟩, ⟨_, _, rfl⟩, ⟨_, _, rfl⟩, Sl.none 32, Sl.none 1, Sl.none 1⟩
theorem noV_ok : noV.ok := ⟨by decide, (fun x h => by cases h), (fun x h => by cases h), fun x h => by cases h⟩
theorem size_ver : (Try.prog.info? 27).map (·.size) = some 4 := by kernel_rfl
theorem size_hashV : (Try.prog.info? 44).map (·.size) = some 32 := by kernel_rfl
theorem cellsV_one (id : Nat) (pb pn pz : Option Addr) (nb nn' nz cb cn cz : Nat) : (cellsV id (.slice pb nb cb) (.slice pn nn' cn) (.slice pz nz cz)).toArray.all (·.oneCell') = true := by simp [cellsV, Value.oneCell']
/-! ### as arguments -/
section
variable {H : Type} {enc : TypeId × Value → H} {w : World} {base : Nat} {spare : Nat → Bool} {held : Bool}
theorem slice_shape {t e : TypeId} {fuel : Nat} {v : Value} {x : DataW H × List MemPlace} (ht : Try.prog.underlying t = some (.slice e)) (h : DataW.trod enc Try.prog w base spare held fuel t [v] = some x) : ∃ p n c, v = .slice p n c := by
  rcases Go.Deep.open_slice ht h with ⟨hcs, _⟩ | ⟨a, len, cap, m, n, D, Pl, hcs, _⟩
  · cases hcs; exact ⟨_, _, _, rfl⟩
  · cases hcs; exact ⟨_, _, _, rfl⟩
theorem open_hashes {p0 : Option Addr} {len cap : Nat} {d : DataW H} {p : List MemPlace} (h : DataW.Trod enc Try.prog w base spare held 23 (.slice p0 len cap) d p) :
    ∃ l : List (List Nat), l.length = len ∧ Sl w 32 (.slice p0 len cap) (rowsH l) ∧ HashL l ∧ (Value.slice p0 len cap = .slice none 0 0 ∨ ∃ ad n c, Value.slice p0 len cap = .slice (some ad) n c) ∧ len ≤ cap ∧ cap ≤ maxLen := by
  obtain ⟨m, hm⟩ := h
  have hcells : (Value.slice p0 len cap).cells.toList = [.slice p0 len cap] := rfl
  rw [hcells] at hm
  have hC : Try.prog.cellsOf 44 = 32 := by kernel_rfl
  rcases Go.Deep.open_slice Try.underlying23 hm with ⟨hcs, _⟩ | ⟨a, len', cap', m', n, D, Pl, hcs, hb, hl, hcap, hmm, hx, hi⟩
  · cases hcs
    exact ⟨[], rfl, Sl.none 32, (fun q h => (by cases h)), .inl rfl, Nat.le_refl _, by simp [maxLen]⟩
  · cases hcs
    rw [hC] at hi
    have hlm : len ≤ m' := by rw [hmm]; split <;> omega
    have each : ∀ i, i < len → ∃ q : List Nat, (∀ j v, (rowH q)[j]? = some v → w.cell? ((a.add (i * 32)).add j) = some v) ∧ q.length = 32 ∧ Bys q := fun i hil => by
      obtain ⟨cs, hc, ht⟩ := hi i (by omega)
      obtain ⟨_, hcl, hat⟩ := World.cells?_some hc
      obtain ⟨q, hq, h1, h2⟩ := open_bys (v := .agg cs.toArray) Try.underlying44 Try.underlying5 cells_u8 hC cs.toArray rfl ⟨n, by simpa [Value.cells] using ht⟩
      refine ⟨q, fun j v hv => ?_, h1, h2⟩
      have e : cs = ints .u8 (nn q) := by
        have := congrArg (fun v => match v with | Value.agg c => c.toList | _ => []) hq
        simpa using this
      have hj : j < 32 := by
        have := (List.getElem?_eq_some_iff.1 hv).1
        rw [rowH_len h1] at this
        exact this
      rw [hat j hj, e]
      exact hv
    obtain ⟨q, hq⟩ := Deep.choose_lt each
    refine ⟨(List.range len).map q, by simp, ?_, fun x hx => ?_, .inr ⟨_, _, _, rfl⟩, by omega, by omega⟩
    · unfold rowsH
      rw [List.map_map]
      refine rows_of a len cap _ (fun i hi => rowH_len (hq i hi).2.1) (fun h0 => ?_) (fun i hi j x hj => ?_)
      · have h1 := hq 0 h0
        have := cell_lt (h1.1 0 ((rowH (q 0))[0]'(by rw [rowH_len h1.2.1]; decide)) (List.getElem?_eq_getElem _))
        rwa [add_block, add_block] at this
      · rw [← Deep.add_add]
        exact (hq i hi).1 j x hj
    · obtain ⟨i, hi, rfl⟩ := List.mem_map.1 hx
      exact (hq i (List.mem_range.1 hi)).2
theorem open_version {r : Reach} {b0 : Nat} {v : Value} {d : DataW H} {p : List MemPlace} (hv : Value.okWide Try.prog w r b0 27 v) (h : DataW.Trod enc Try.prog w base spare held 27 v d p) :
    ∃ a : RawV, VV w v a ∧ a.ok ∧ a.bl.length ≤ maxLen ∧ a.ns.length ≤ maxLen ∧ a.zs.length ≤ maxLen := by
  obtain ⟨v0, v1, v2, v3, y0, y1, y2, y3, n, rfl, _, _, h0, h1, h2, h3⟩ := Go.Joins.open_agg4 Try.underlying27 (by kernel_rfl) (by kernel_rfl) hv h
  obtain ⟨k, e0, _, w0⟩ := DataW.trod_int Try.underlying22 h0
  obtain ⟨k, rfl, hk⟩ := nat_u32 k w0
  obtain ⟨p1, n1, c1, rfl⟩ := slice_shape Try.underlying23 h1
  obtain ⟨p2, n2, c2, rfl⟩ := slice_shape Try.underlying24 h2
  obtain ⟨p3, n3, c3, rfl⟩ := slice_shape Try.underlying25 h3
  obtain ⟨bl, rfl, s1, q1, _, m1, m1'⟩ := open_hashes (d := y1.1) (p := y1.2) ⟨n, h1⟩
  obtain ⟨ns, rfl, s2, q2, _, m2, m2'⟩ := open_texts (d := y2.1) (p := y2.2) ⟨n, h2⟩
  obtain ⟨zs, rfl, s3, q3, m3⟩ := open_nums (d := y3.1) (p := y3.2) Try.underlying25 Try.underlying3 (by kernel_rfl) ⟨n, h3⟩
  have e1 : v0 = .int .u32 (k : Int) := by simpa using e0
  subst e1
  exact ⟨⟨k, bl, ns, zs⟩, ⟨_, _, _, rfl, ⟨_, _, rfl⟩, ⟨_, _, rfl⟩, ⟨_, _, rfl⟩, s1, s2, s3⟩, ⟨hk, q1, q2, q3⟩, by show bl.length ≤ maxLen; omega, by show ns.length ≤ maxLen; omega, m3⟩
end
/-! ### whether it may be, by places -/
theorem may_long {nb : Nat} {ns : List (List Nat)} {zs : List Int} (h : 12 < ns.length ∨ ns.length ≠ zs.length) : mayH nb ns zs = false := by
  cases hb : mayH nb ns zs with
  | false => rfl
  | true =>
    obtain ⟨h1, h2, _⟩ := mayH_iff.1 hb
    rcases h with h | h
    · omega
    · exact absurd h2 h
theorem getN_mem {ns : List (List Nat)} {j : Nat} (h : j < ns.length) : ns.getD j [] ∈ ns := by
  rw [List.getD_eq_getElem?_getD, List.getElem?_eq_getElem h]
  exact List.getElem_mem _
theorem getZ_mem {zs : List Int} {j : Nat} (h : j < zs.length) : zs.getD j 0 ∈ zs := by
  rw [List.getD_eq_getElem?_getD, List.getElem?_eq_getElem h]
  exact List.getElem_mem _
/-- a file's name and size, at a place -/
def fineH (n : List Nat) (z : Int) : Prop := 0 < n.length ∧ n.length ≤ 20 ∧ 0 ≤ z ∧ z ≤ 300
theorem may_bad {nb : Nat} {ns : List (List Nat)} {zs : List Int} {j : Nat} (hl : ns.length = zs.length) (hj : j < ns.length) (h : ¬ fineH (ns.getD j []) (zs.getD j 0)) : mayH nb ns zs = false := by
  cases hb : mayH nb ns zs with
  | false => rfl
  | true =>
    obtain ⟨_, _, h3, h4, _⟩ := mayH_iff.1 hb
    have q1 := h3 _ (getN_mem hj)
    have q2 := h4 _ (getZ_mem (show j < zs.length by omega))
    exact absurd ⟨q1.1, q1.2, q2.1, q2.2⟩ h
theorem risesN_at (ns : List (List Nat)) (i : Nat) : ((ns.map fun n => (n, ([] : List Nat))).getD i noF).1 = ns.getD i [] := by
  rw [List.getD_eq_getElem?_getD, List.getElem?_map, List.getD_eq_getElem?_getD]
  cases ns[i]? <;> rfl
theorem may_falls {nb : Nat} {ns : List (List Nat)} {zs : List Int} {j : Nat} (hj : j + 1 < ns.length) (h : ltB (ns.getD j []) (ns.getD (j + 1) []) = false) : mayH nb ns zs = false := by
  cases hb : mayH nb ns zs with
  | false => rfl
  | true =>
    obtain ⟨_, _, _, _, h5, _⟩ := mayH_iff.1 hb
    have := rises_at h5 j (by rw [List.length_map]; exact hj)
    rw [risesN_at, risesN_at, h] at this
    cases this
theorem may_end {nb : Nat} {ns : List (List Nat)} {zs : List Int} (h12 : ns.length ≤ 12) (hl : ns.length = zs.length) (hf : ∀ k, k < ns.length → fineH (ns.getD k []) (zs.getD k 0)) (hr : ∀ k, k + 1 < ns.length → ltB (ns.getD k []) (ns.getD (k + 1) []) = true) : mayH nb ns zs = decide (nb = blocksH zs) := by
  have key : mayH nb ns zs = true ↔ nb = blocksH zs := by
    rw [mayH_iff]
    refine ⟨fun h => h.2.2.2.2.2, fun h => ⟨h12, hl, fun n hn => ?_, fun z hz => ?_, rises_of fun i hi => ?_, h⟩⟩
    · obtain ⟨k, hk, rfl⟩ := List.getElem_of_mem hn
      have := hf k hk
      rw [List.getD_eq_getElem?_getD, List.getElem?_eq_getElem hk] at this
      exact ⟨this.1, this.2.1⟩
    · obtain ⟨k, hk, rfl⟩ := List.getElem_of_mem hz
      have := hf k (by omega)
      have e : zs.getD k 0 = zs[k] := by rw [List.getD_eq_getElem?_getD, List.getElem?_eq_getElem hk]; rfl
      rw [e] at this
      exact ⟨this.2.2.1, this.2.2.2⟩
    · rw [risesN_at, risesN_at]
      exact hr i (by rw [List.length_map] at hi; exact hi)
  cases hb : mayH nb ns zs with
  | true => exact (decide_eq_true (key.1 hb)).symm
  | false => exact (decide_eq_false (fun h => by rw [key.2 h] at hb; cases hb)).symm
theorem blocksH_le {zs : List Int} (h : zs.length ≤ 1000) : blocksH zs ≤ 1200 := by
  have h1 := sumF_le (l := zs.map cntS) (n := 300) fun x hx => by
    obtain ⟨z, _, rfl⟩ := List.mem_map.1 hx
    unfold cntS
    split <;> omega
  rw [List.length_map] at h1
  unfold blocksH blkN
  omega
end Go.Proofs.Ytahfjfhiejhddaa
