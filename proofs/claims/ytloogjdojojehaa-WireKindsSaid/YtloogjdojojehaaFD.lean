/- Files in their cells: told apart, written one by one; rows appended to an empty slice. -/
import Derived.Test.YtloogjdojojehaaFA
import Derived.ArgAppend
import Derived.Test.YtloogjdojojehaaFB
import Derived.Test.YtloogjdojojehaaG1
import Derived.Test.YtloogjdojojehaaG3
namespace Go.Proofs.Ytloogjdojojehaa
open Go.RowKit
set_option linter.unusedVariables false

section
variable {P : Program} {ops : Array Oper} {rest : List Oper} {o : Oper} {a : Act} {w : World} {Q : Exit → Act → World → Prop}
/-- rows are appended to an empty slice that has no room -/
theorem wpList_append_empty (hgd : o.guard = none) (s x : Operand) (t : TypeId) (ho : o.op = .call { callee := .builtin .append, args := #[s, x], argTypes := #[t, t] })
    (e : TypeId) (i : TypeInfo) (z : Value) (k bytes : Nat) (ht : P.underlying t = some (.slice e)) (hi : P.info? e = some i) (hz : i.zero = some z) (hsize : i.size = k) (hby : i.bytes = bytes) (hzs : z.cells.size = k) (hk : 0 < k)
    (B : Nat) (hs : a.eval s = .slice (some ⟨B, 0, none⟩) 0 0) (vx : Value) (news : List (List Value)) (hx : a.eval x = vx) (hnew : Sl w k vx news) (h1 : ∀ r ∈ news, ∀ u ∈ r, u.oneCell' = true)
    (h0 : 0 < news.length) (h63 : news.length ≤ maxLen) (hbytes : news.length * bytes ≤ 140737488355328)
    (h : ∀ v' w', OwnR w' w.heap.size e k v' news → Below w.heap.size w w' → wpList P ops Q rest (a.put o.dst v') w') : wpList P ops Q (o :: rest) a w := by
  obtain ⟨k0, p, c, hv, hcell⟩ := hnew
  obtain ⟨ad, rfl, _⟩ := hcell 0 news[0] (List.getElem?_eq_getElem h0)
  subst hv
  refine wpList_append_arg w hgd s x t ho e i z k bytes ht hi hz hsize hby hzs hk B 0 0 0 [] hs (by simp) (fun j u hj => by simp at hj) ad news.length c news.flatten hx (flat_len k0) (fun j u hu => ?_) (fun u hu => ?_) (fun hr => by omega) (by omega) (by simpa using hbytes) (fun hr => by omega) (fun _ v' w' q1 q2 => ?_)
  · obtain ⟨i', r, m, hr, hm, rfl, _⟩ := flat_from hk k0 hu
    obtain ⟨a', ha, _, hc⟩ := hcell i' r hr
    cases ha
    exact hc m u hm
  · obtain ⟨r, hr, hur⟩ := List.mem_flatten.1 hu
    exact h1 r hr u hur
  · refine h v' w' ⟨k0, ?_⟩ (Below.grown (Below.refl _ _) q2 (Nat.le_refl _) (fun k hk => by cases hk))
    rw [Nat.zero_add, List.nil_append] at q1
    exact q1
end
theorem flat_cut {k : Nat} {rows : List (List Value)} (hk : ∀ r ∈ rows, r.length = k) {i : Nat} (h : i < rows.length) :
    rows.flatten = (rows.take i).flatten ++ (rows[i] ++ (rows.drop (i + 1)).flatten) ∧ (rows.take i).flatten.length = i * k ∧ rows[i].length = k ∧ ∀ r, (rows.set i r).flatten = (rows.take i).flatten ++ (r ++ (rows.drop (i + 1)).flatten) := by
  refine ⟨?_, ?_, hk _ (List.getElem_mem h), fun r => ?_⟩
  · conv => lhs; rw [← List.take_append_drop i rows, List.drop_eq_getElem_cons h]
    rw [List.flatten_append, List.flatten_cons]
  · rw [flat_len (fun r hr => hk r (List.mem_of_mem_take hr)), List.length_take, Nat.min_eq_left (by omega)]
  · rw [List.set_eq_take_append_cons_drop, if_pos h, List.flatten_append, List.flatten_cons]
theorem rowsF_set (l : List (List Nat × List Nat)) (i : Nat) (f : List Nat × List Nat) : rowsF (l.set i f) = (rowsF l).set i (rowF f) := by unfold rowsF; rw [List.map_set]
theorem rowsF_two {l : List (List Nat × List Nat)} : ∀ r ∈ rowsF l, r.length = 2 := fun r hr => by
  simp only [rowsF, List.mem_map] at hr
  obtain ⟨q, _, rfl⟩ := hr
  rfl
theorem rowsF_one {l : List (List Nat × List Nat)} : ∀ r ∈ rowsF l, ∀ u ∈ r, u.oneCell' = true := fun r hr u hu => by
  simp only [rowsF, List.mem_map] at hr
  obtain ⟨q, _, rfl⟩ := hr
  simp [rowF] at hu
  rcases hu with rfl | rfl <;> rfl
/-- cells of files, a row's own place told -/
theorem file_cut (l : List (List Nat × List Nat)) (rest : List Value) {i : Nat} (h : i < l.length) :
    ∃ X Z : List Value, (rowsF l).flatten ++ rest = X ++ (rowF (l.getD i noF) ++ Z) ∧ X.length = i * 2 ∧ ∀ q, (rowsF (l.set i q)).flatten ++ rest = X ++ (rowF q ++ Z) := by
  have hr : i < (rowsF l).length := by rw [rowsF_len]; exact h
  obtain ⟨h1, h2, h3, h4⟩ := flat_cut rowsF_two hr
  have e : (rowsF l)[i] = rowF (l.getD i noF) := by
    have := rowsF_at h
    rw [List.getElem?_eq_getElem hr] at this
    exact Option.some.inj this
  refine ⟨_, (List.drop (i + 1) (rowsF l)).flatten ++ rest, ?_, h2, fun q => ?_⟩
  · rw [h1, e, List.append_assoc, List.append_assoc]
  · rw [rowsF_set, h4, List.append_assoc, List.append_assoc]
theorem file_load {W : World} {g : Nat} {m : List (List Nat × List Nat)} {rest : List Value} (h : Blk W g 141 ((rowsF m).flatten ++ rest)) {j : Nat} (hj : j < m.length) : ∀ k v, (rowF (m.getD j noF))[k]? = some v → W.cell? ((⟨g, j * 2, none⟩ : Addr).add k) = some v := fun k v hv => by
  obtain ⟨a, e, hc⟩ := (sl_blkS (cap := 0) rowsF_two h).row (rowsF_at hj)
  cases e
  have := hc k v hv
  rw [Addr.add_mid] at this
  simpa using this
theorem info_file : (Try.prog.info? 141).map (fun i => (i.zero, i.size, i.bytes)) = some (some (.agg #[.string ⟨#[]⟩, .string ⟨#[]⟩]), 2, 32) := by kernel_rfl
theorem made_pair (n : Nat) (a b : Value) : (madeCells #[a, b] (n * 2)).toList = (List.replicate n [a, b]).flatten := by
  have hk : ∀ r ∈ List.replicate n [a, b], r.length = 2 := fun r hr => by rw [List.eq_of_mem_replicate hr]; rfl
  apply List.ext_getElem?
  intro j
  by_cases hj : j < n * 2
  · have h1 : (List.replicate n [a, b])[j / 2]? = some [a, b] := by rw [List.getElem?_replicate, if_pos (by omega)]
    have h2 : ([a, b] : List Value)[j % 2]? = some (if j % 2 = 0 then a else b) := by
      rcases (show j % 2 = 0 ∨ j % 2 = 1 by omega) with e | e <;> rw [e] <;> rfl
    have h3 := flat_at hk h1 h2
    rw [show j / 2 * 2 + j % 2 = j by omega] at h3
    rw [h3]
    have h4 : (madeCells #[a, b] (n * 2)).toList[j]? = some ((#[a, b] : Array Value)[j % 2]!) := by
      simp [madeCells, hj]
    rw [h4]
    rcases (show j % 2 = 0 ∨ j % 2 = 1 by omega) with e | e <;> rw [e] <;> rfl
  · rw [List.getElem?_eq_none (by simp [madeCells]; omega), List.getElem?_eq_none (by rw [flat_len hk, List.length_replicate]; omega)]
theorem make_files (n : Nat) (h : n ≤ 1000000) (w : World) : (Instr.makeSlice 139 (.int .i64 (n : Int)) (.int .i64 (n : Int))).run Try.prog w = .ok (.slice (some ⟨w.heap.size, 0, none⟩) n n) (w.alloc (.cells (rowsF (List.replicate n noF)).flatten.toArray 141)) := by
  obtain ⟨i0, hi0, hz0, hz1, hz2⟩ := info_parts2 info_file
  have hr := run_make (P := Try.prog) w 139 141 i0 (.agg #[.string ⟨#[]⟩, .string ⟨#[]⟩]) Try.underlying139 hi0 hz0 .i64 .i64 n n (by omega) (Int.le_refl _) (by rw [hz2]; omega) (by omega)
  simp only [Int.toNat_natCast, hz1] at hr
  have e : madeCells (Value.agg #[.string ⟨#[]⟩, .string ⟨#[]⟩]).cells (n * 2) = (rowsF (List.replicate n noF)).flatten.toArray := by
    apply Array.ext'
    rw [show (Value.agg #[.string ⟨#[]⟩, .string ⟨#[]⟩]).cells = #[.string ⟨#[]⟩, .string ⟨#[]⟩] from rfl, made_pair]
    unfold rowsF
    rw [List.map_replicate]
    rfl
  rw [hr, e]
/-- the first files are written -/
def wroteF (n : Nat) (pre : List (List Nat × List Nat)) : List (List Nat × List Nat) := pre ++ List.replicate (n - pre.length) noF
theorem wroteF_len {n : Nat} {pre : List (List Nat × List Nat)} (h : pre.length ≤ n) : (wroteF n pre).length = n := by unfold wroteF; rw [List.length_append, List.length_replicate]; omega
theorem wroteF_set {n : Nat} {pre : List (List Nat × List Nat)} (h : pre.length < n) (f : List Nat × List Nat) : (wroteF n pre).set pre.length f = wroteF n (pre ++ [f]) := by
  unfold wroteF
  rw [List.set_append_right _ _ (Nat.le_refl _), Nat.sub_self]
  obtain ⟨k, hk⟩ : ∃ k, n - pre.length = k + 1 := ⟨n - pre.length - 1, by omega⟩
  rw [hk, List.length_append, List.length_singleton, show n - (pre.length + 1) = k by omega, List.replicate_succ, List.append_assoc]
  rfl
theorem wroteF_all {n : Nat} {pre : List (List Nat × List Nat)} (h : pre.length = n) : wroteF n pre = pre := by unfold wroteF; rw [h, Nat.sub_self]; simp
end Go.Proofs.Ytloogjdojojehaa
namespace Go.Proofs.Ytloogjdojojehaa
open Go.RowKit
set_option linter.unusedVariables false

theorem part_drop {ns : List (List Nat)} {zs : List Int} {j : Nat} (h1 : j < ns.length) (h2 : j < zs.length) (t : List Nat) :
    partF (ns.drop j) (zs.drop j) t = if 0 ≤ zs.getD j 0 ∧ zs.getD j 0 ≤ (t.length : Int) then (partF (ns.drop (j + 1)) (zs.drop (j + 1)) (t.drop (zs.getD j 0).toNat)).map ((ns.getD j [], t.take (zs.getD j 0).toNat) :: ·) else none := by
  have e1 : ns.drop j = ns.getD j [] :: ns.drop (j + 1) := by rw [List.drop_eq_getElem_cons h1, List.getD_eq_getElem?_getD, List.getElem?_eq_getElem h1]; rfl
  have e2 : zs.drop j = zs.getD j 0 :: zs.drop (j + 1) := by rw [List.drop_eq_getElem_cons h2, List.getD_eq_getElem?_getD, List.getElem?_eq_getElem h2]; rfl
  rw [e1, e2, partF]
theorem part_end {ns : List (List Nat)} {zs : List Int} (h : ns.length = zs.length) (t : List Nat) : partF (ns.drop ns.length) (zs.drop ns.length) t = if t.length = 0 then some [] else none := by
  rw [List.drop_of_length_le (Nat.le_refl _), List.drop_of_length_le (by omega), partF]
theorem partR_none {ns : List (List Nat)} {zs : List Int} {s : List Nat} (h : partF ns zs s = none) : partR ns zs s = ([], 1) := by unfold partR; rw [h]
theorem partR_some {ns : List (List Nat)} {zs : List Int} {s : List Nat} {m : List (List Nat × List Nat)} (h : partF ns zs s = some m) : partR ns zs s = if checkF m = 0 then (m, 0) else ([], checkF m) := by unfold partR; rw [h]
theorem partF_ne {ns : List (List Nat)} {zs : List Int} {s : List Nat} (h : ns.length ≠ zs.length) : partF ns zs s = none := by
  cases hp : partF ns zs s with
  | none => rfl
  | some m => exact absurd (part_lens hp).1 h
/-- files and an error -/
def PartRet (r : List (List Nat × List Nat) × Nat) (w : World) (e : Ending) (w' : World) : Prop :=
  ∃ p c, e = .returned (.tuple #[.slice p r.1.length c, .int .i64 (r.2 : Int)]) ∧ Sl w' 2 (.slice p r.1.length c) (rowsF r.1) ∧ Below w.heap.size w w'
theorem partRet_nil {n : Nat} {w w' : World} {e : Ending} (he : e = .returned (.tuple #[.slice none 0 0, .int .i64 (n : Int)])) (hb : Below w.heap.size w w') : PartRet ([], n) w e w' := ⟨none, 0, he, Sl.none 2, hb⟩
section
variable {H : Type} {enc : TypeId × Value → H} {w : World} {base : Nat} {spare : Nat → Bool} {held : Bool}
open Go.ChangeShapes Go.WideShapes in
theorem open_sizes {p0 : Option Addr} {len cap : Nat} {d : DataW H} {p : List MemPlace} (h : DataW.Trod enc Try.prog w base spare held 28 (.slice p0 len cap) d p) :
    ∃ l : List Int, l.length = len ∧ Sl w 1 (.slice p0 len cap) (rowsZF l) ∧ (∀ q ∈ l, (Lit.int .i64 q).wf = true) ∧ len ≤ maxLen := open_nums Try.underlying28 Try.underlying3 (by kernel_rfl) h
end
end Go.Proofs.Ytloogjdojojehaa
namespace Go.Proofs.Ytloogjdojojehaa
open Go.RowKit
set_option linter.unusedVariables false

/-- what the operations of a round come to -/
def prS (base : Nat) (vx : Value) (R : List (List Value)) (a bq : Addr) (n c d j : Nat) (k : Nat) (NM DT t : ByteArray) (b : Bool) (i : Nat) (v : Value) (W : World) : Prop :=
  match i with
  | 0 => v = vx ∧ (b = false → OwnR W base 141 2 vx R)
  | 1 => v = .slice (some a) n c
  | 2 | 7 => v = .int .i64 (j : Int)
  | 3 => v = .pointer (some (a.add j))
  | 4 => v = .string NM
  | 5 => v = .string t
  | 6 => v = .slice (some bq) n d
  | 8 => v = .pointer (some (bq.add j))
  | 9 => v = .int .i64 (k : Int)
  | 10 => v = .string DT
  | 11 => v = .agg #[.string NM, .string DT]
  | 12 => b = false → ∃ D, v = .slice (some ⟨D, 0, none⟩) 1 1 ∧ Blk W D 141 [.string NM, .string DT]
  | 13 | 14 => b = true ∧ OwnR W base 141 2 v (R ++ [[.string NM, .string DT]])
  | _ => True
theorem prS_mono {base : Nat} {vx : Value} {R : List (List Value)} {a bq : Addr} {n c d j : Nat} {k : Nat} {NM DT t : ByteArray} (b : Bool) (i : Nat) (v : Value) (W W' : World) (h : prS base vx R a bq n c d j k NM DT t b i v W) (hb : Below W.heap.size W W') : prS base vx R a bq n c d j k NM DT t b i v W' :=
  match i with
  | 1 | 2 | 3 | 4 | 5 | 6 | 7 | 8 | 9 | 10 | 11 => h
  | 0 => ⟨h.1, fun e => (h.2 e).keep hb⟩
  | 12 => fun e => let ⟨D, h1, h2⟩ := h e; ⟨D, h1, h2.below hb h2.lt⟩
  | 13 | 14 => ⟨h.1, h.2.keep hb⟩
  | _ + 15 => trivial
theorem prS_turn {base : Nat} {vx : Value} {R : List (List Value)} {a bq : Addr} {n c d j : Nat} {k : Nat} {NM DT t : ByteArray} (i : Nat) (v : Value) (W W' : World) (h : prS base vx R a bq n c d j k NM DT t false i v W) : prS base vx R a bq n c d j k NM DT t true i v W' :=
  match i with
  | 1 | 2 | 3 | 4 | 5 | 6 | 7 | 8 | 9 | 10 | 11 => h
  | 0 => ⟨h.1, fun e => by cases e⟩
  | 12 => fun e => by cases e
  | 13 | 14 => by cases h.1
  | _ + 15 => trivial
end Go.Proofs.Ytloogjdojojehaa
