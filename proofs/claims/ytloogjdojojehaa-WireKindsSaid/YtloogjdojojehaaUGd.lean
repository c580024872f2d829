/- Ops, requests and rows of requests as arguments (stage 17). -/
import Derived.Test.YtloogjdojojehaaUGb
import Derived.Test.YtloogjdojojehaaURfF
import Derived.Test.YtloogjdojojehaaUGc
import Derived.Test.YtloogjdojojehaaURfI
import Derived.Test.YtloogjdojojehaaG4
import Derived.BigQuiet
import Derived.Test.YtloogjdojojehaaGrd
namespace Go.Proofs.Ytloogjdojojehaa
open Go.RowKit Go.ChangeShapes Go.WideShapes
set_option linter.unusedVariables false

/-- what is known of a version that is handed in -/
def VerIn (a : RawV) : Prop := a.ok ∧ a.bl.length ≤ maxLen ∧ a.ns.length ≤ maxLen ∧ a.zs.length ≤ maxLen
def OpIn (kind : Int) (id : Nat) (a : RawV) : Prop := (Lit.int .i64 kind).wf = true ∧ id < 4294967296 ∧ VerIn a
def ReqIn (r : ReqU RawV) : Prop := (Lit.int .i64 r.client).wf = true ∧ r.seq < 4294967296 ∧ OpIn r.kind r.id r.ver
theorem four_of {α : Type} {l : List α} (h : l.length = 4) : ∃ a b c d, l = [a, b, c, d] := by
  match l, h with
  | [a, b, c, d], _ => exact ⟨a, b, c, d, rfl⟩
theorem three_of {α : Type} {l : List α} (h : l.length = 3) : ∃ a b c, l = [a, b, c] := by
  match l, h with
  | [a, b, c], _ => exact ⟨a, b, c, rfl⟩
theorem two_more {α : Type} {l : List α} {n : Nat} (h : l.length = n + 2) : ∃ a b q, l = a :: b :: q ∧ q.length = n := by
  match l, h with
  | a :: b :: q, h => exact ⟨a, b, q, rfl, by simpa using h⟩
theorem choose_of {β : Type} {len : Nat} {p : Nat → β → Prop} (d : β) (h : ∀ i, i < len → ∃ z, p i z) : ∃ z : Nat → β, ∀ i, i < len → p i (z i) := by
  refine ⟨fun i => if hi : i < len then (h i hi).choose else d, fun i hi => ?_⟩
  simp only [hi, dif_pos]
  exact (h i hi).choose_spec
section
variable {H : Type} {enc : TypeId × Value → H} {w : World} {base : Nat} {spare : Nat → Bool} {held : Bool}
set_option maxRecDepth 100000 in
theorem open_verC {n : Nat} {cs : List Value} {x : DataW H × List MemPlace} (h : DataW.trod enc Try.prog w base spare held n 30 cs = some x) : ∃ a : RawV, VV w (.agg cs.toArray) a ∧ VerIn a := by
  obtain ⟨xs, m, _, _, hl, hx, hf⟩ := DataW.trod_struct Try.underlying30 h
  have hC : Try.prog.cellsOf 30 = 4 := by kernel_rfl
  obtain ⟨v0, v1, v2, v3, rfl⟩ := four_of (hl.trans hC)
  obtain ⟨y0, y1, y2, y3, rfl⟩ := four_of hx
  have c1 : Try.prog.cellsOf 22 = 1 := by kernel_rfl
  have c2 : Try.prog.cellsOf 26 = 1 := by kernel_rfl
  have c3 : Try.prog.cellsOf 27 = 1 := by kernel_rfl
  have c4 : Try.prog.cellsOf 28 = 1 := by kernel_rfl
  have g0 := hf 0 _ rfl
  have g1 := hf 1 _ rfl
  have g2 := hf 2 _ rfl
  have g3 := hf 3 _ rfl
  have h0 : DataW.trod enc Try.prog w base spare held m 22 [v0] = some y0 := by
    have g : DataW.trod enc Try.prog w base spare held m 22 (([v0, v1, v2, v3].drop 0).take (Try.prog.cellsOf 22)) = some y0 := g0
    rw [c1] at g
    exact g
  have h1 : DataW.trod enc Try.prog w base spare held m 26 [v1] = some y1 := by
    have g : DataW.trod enc Try.prog w base spare held m 26 (([v0, v1, v2, v3].drop 1).take (Try.prog.cellsOf 26)) = some y1 := g1
    rw [c2] at g
    exact g
  have h2 : DataW.trod enc Try.prog w base spare held m 27 [v2] = some y2 := by
    have g : DataW.trod enc Try.prog w base spare held m 27 (([v0, v1, v2, v3].drop 2).take (Try.prog.cellsOf 27)) = some y2 := g2
    rw [c3] at g
    exact g
  have h3 : DataW.trod enc Try.prog w base spare held m 28 [v3] = some y3 := by
    have g : DataW.trod enc Try.prog w base spare held m 28 (([v0, v1, v2, v3].drop 3).take (Try.prog.cellsOf 28)) = some y3 := g3
    rw [c4] at g
    exact g
  clear g0 g1 g2 g3 hf h
  obtain ⟨k, e0, _, w0⟩ := DataW.trod_int Try.underlying22 h0
  obtain ⟨k, rfl, hk⟩ := nat_u32 k w0
  obtain ⟨p1, n1, q1', rfl⟩ := slice_shape Try.underlying26 h1
  obtain ⟨p2, n2, q2', rfl⟩ := slice_shape Try.underlying27 h2
  obtain ⟨p3, n3, q3', rfl⟩ := slice_shape Try.underlying28 h3
  obtain ⟨bl, rfl, s1, q1, _, m1, m1'⟩ := open_hashes (d := y1.1) (p := y1.2) ⟨m, h1⟩
  obtain ⟨ns, rfl, s2, q2, _, m2, m2'⟩ := open_texts (d := y2.1) (p := y2.2) ⟨m, h2⟩
  obtain ⟨zs, rfl, s3, q3, m3⟩ := open_nums (d := y3.1) (p := y3.2) Try.underlying28 Try.underlying3 (by kernel_rfl) ⟨m, h3⟩
  have e1 : v0 = .int .u32 (k : Int) := by simpa using e0
  subst e1
  exact ⟨⟨k, bl, ns, zs⟩, ⟨_, _, _, rfl, ⟨_, _, rfl⟩, ⟨_, _, rfl⟩, ⟨_, _, rfl⟩, s1, s2, s3⟩, ⟨hk, q1, q2, q3⟩, by show bl.length ≤ maxLen; omega, by show ns.length ≤ maxLen; omega, m3⟩
set_option maxRecDepth 100000 in
theorem open_opC {n : Nat} {cs : List Value} {x : DataW H × List MemPlace} (h : DataW.trod enc Try.prog w base spare held n 38 cs = some x) : ∃ kind id q a, cs = cellsO kind id q ∧ VV w (.agg q.toArray) a ∧ OpIn kind id a := by
  obtain ⟨xs, m, _, _, hl, hx, hf⟩ := DataW.trod_struct Try.underlying38 h
  have hC : Try.prog.cellsOf 38 = 6 := by kernel_rfl
  obtain ⟨v0, v1, q, rfl, hq⟩ := two_more (n := 4) (hl.trans hC)
  obtain ⟨y0, y1, y2, rfl⟩ := three_of hx
  have c1 : Try.prog.cellsOf 3 = 1 := by kernel_rfl
  have c2 : Try.prog.cellsOf 22 = 1 := by kernel_rfl
  have c3 : Try.prog.cellsOf 30 = 4 := by kernel_rfl
  have g0 := hf 0 _ rfl
  have g1 := hf 1 _ rfl
  have g2 := hf 2 _ rfl
  have h0 : DataW.trod enc Try.prog w base spare held m 3 [v0] = some y0 := by
    have g : DataW.trod enc Try.prog w base spare held m 3 (((v0 :: v1 :: q).drop 0).take (Try.prog.cellsOf 3)) = some y0 := g0
    rw [c1] at g
    exact g
  have h1 : DataW.trod enc Try.prog w base spare held m 22 [v1] = some y1 := by
    have g : DataW.trod enc Try.prog w base spare held m 22 (((v0 :: v1 :: q).drop 1).take (Try.prog.cellsOf 22)) = some y1 := g1
    rw [c2] at g
    exact g
  have h2 : DataW.trod enc Try.prog w base spare held m 30 q = some y2 := by
    have g : DataW.trod enc Try.prog w base spare held m 30 ((q).take (Try.prog.cellsOf 30)) = some y2 := g2
    rw [c3] at g
    rwa [List.take_of_length_le (by omega)] at g
  obtain ⟨k, e0, _, w0⟩ := DataW.trod_int Try.underlying3 h0
  obtain ⟨i, e1, _, w1⟩ := DataW.trod_int Try.underlying22 h1
  obtain ⟨i, rfl, hi⟩ := nat_u32 i w1
  obtain ⟨a, hv, ha⟩ := open_verC h2
  obtain rfl : v0 = .int .i64 k := by simpa using e0
  obtain rfl : v1 = .int .u32 (i : Int) := by simpa using e1
  exact ⟨k, i, q, a, rfl, hv, w0, hi, ha⟩
set_option maxRecDepth 100000 in
theorem open_reqC {n : Nat} {cs : List Value} {x : DataW H × List MemPlace} (h : DataW.trod enc Try.prog w base spare held n 40 cs = some x) : ∃ r : ReqU RawV, cs.length = 8 ∧ ReqTold w (.agg cs.toArray) r ∧ ReqIn r := by
  obtain ⟨xs, m, _, _, hl, hx, hf⟩ := DataW.trod_struct Try.underlying40 h
  have hC : Try.prog.cellsOf 40 = 8 := by kernel_rfl
  obtain ⟨v0, v1, q, rfl, hq⟩ := two_more (n := 6) (hl.trans hC)
  obtain ⟨y0, y1, y2, rfl⟩ := three_of hx
  have c1 : Try.prog.cellsOf 3 = 1 := by kernel_rfl
  have c2 : Try.prog.cellsOf 22 = 1 := by kernel_rfl
  have c3 : Try.prog.cellsOf 38 = 6 := by kernel_rfl
  have g0 := hf 0 _ rfl
  have g1 := hf 1 _ rfl
  have g2 := hf 2 _ rfl
  have h0 : DataW.trod enc Try.prog w base spare held m 3 [v0] = some y0 := by
    have g : DataW.trod enc Try.prog w base spare held m 3 (((v0 :: v1 :: q).drop 0).take (Try.prog.cellsOf 3)) = some y0 := g0
    rw [c1] at g
    exact g
  have h1 : DataW.trod enc Try.prog w base spare held m 22 [v1] = some y1 := by
    have g : DataW.trod enc Try.prog w base spare held m 22 (((v0 :: v1 :: q).drop 1).take (Try.prog.cellsOf 22)) = some y1 := g1
    rw [c2] at g
    exact g
  have h2 : DataW.trod enc Try.prog w base spare held m 38 q = some y2 := by
    have g : DataW.trod enc Try.prog w base spare held m 38 ((q).take (Try.prog.cellsOf 38)) = some y2 := g2
    rw [c3] at g
    rwa [List.take_of_length_le (by omega)] at g
  obtain ⟨k, e0, _, w0⟩ := DataW.trod_int Try.underlying3 h0
  obtain ⟨i, e1, _, w1⟩ := DataW.trod_int Try.underlying22 h1
  obtain ⟨i, rfl, hi⟩ := nat_u32 i w1
  obtain ⟨kind, id, q', a, rfl, hv, ha⟩ := open_opC h2
  obtain rfl : v0 = .int .i64 k := by simpa using e0
  obtain rfl : v1 = .int .u32 (i : Int) := by simpa using e1
  exact ⟨⟨k, i, kind, id, a⟩, by simpa using hq, ⟨q', rfl, hv⟩, w0, hi, ha⟩
set_option maxRecDepth 100000 in
/-- a slice of requests -/
theorem open_reqs {p0 : Option Addr} {len cap : Nat} {d : DataW H} {p : List MemPlace} (h : DataW.Trod enc Try.prog w base spare held 23 (.slice p0 len cap) d p) :
    ∃ l : List (ReqU RawV), l.length = len ∧ ReqsV w (.slice p0 len cap) l ∧ (∀ r ∈ l, ReqIn r) ∧ len ≤ maxLen ∧ (Value.slice p0 len cap = .slice none 0 0 ∨ ((∃ a, p0 = some a) ∧ len ≤ cap)) := by
  obtain ⟨m, hm⟩ := h
  have hcells : (Value.slice p0 len cap).cells.toList = [.slice p0 len cap] := rfl
  rw [hcells] at hm
  have hC : Try.prog.cellsOf 40 = 8 := by kernel_rfl
  rcases Go.Deep.open_slice Try.underlying23 hm with ⟨hcs, _⟩ | ⟨a, len', cap', m', n, D, Pl, hcs, hb, hl, hcap, hmm, hx, hi⟩
  · cases hcs
    exact ⟨[], rfl, ⟨[], Sl.none 8, rfl, fun i h => by simp at h⟩, (fun q h => (by cases h)), by simp [maxLen], .inl rfl⟩
  · cases hcs
    rw [hC] at hi
    have hlm : len ≤ m' := by rw [hmm]; split <;> omega
    have each : ∀ i, i < len → ∃ z : List Value × ReqU RawV, (∀ j v, z.1[j]? = some v → w.cell? ((a.add (i * 8)).add j) = some v) ∧ z.1.length = 8 ∧ ReqTold w (.agg z.1.toArray) z.2 ∧ ReqIn z.2 := fun i hil => by
      obtain ⟨cs, hc, ht⟩ := hi i (by omega)
      obtain ⟨_, hcl, hat⟩ := World.cells?_some hc
      obtain ⟨r, h8, h1, h2⟩ := open_reqC ht
      refine ⟨(cs, r), fun j v hv => ?_, h8, h1, h2⟩
      have hj : j < 8 := by
        have := (List.getElem?_eq_some_iff.1 hv).1
        rw [h8] at this
        exact this
      rw [hat j hj]
      exact hv
    obtain ⟨z, hz⟩ : ∃ z : Nat → List Value × ReqU RawV, ∀ i, i < len → (∀ j v, (z i).1[j]? = some v → w.cell? ((a.add (i * 8)).add j) = some v) ∧ (z i).1.length = 8 ∧ ReqTold w (.agg (z i).1.toArray) (z i).2 ∧ ReqIn (z i).2 := choose_of ([], noQ) each
    refine ⟨(List.range len).map fun i => (z i).2, by simp, ⟨(List.range len).map fun i => (z i).1, ?_, by simp, fun i hi => ?_⟩, fun r hr => ?_, by omega, .inr ⟨⟨_, rfl⟩, hl⟩⟩
    · refine rows_of a len cap _ (fun i hi => (hz i hi).2.1) (fun h0 => ?_) (fun i hi j x hj => ?_)
      · have h1 := hz 0 h0
        have := cell_lt (h1.1 0 ((z 0).1[0]'(by rw [h1.2.1]; decide)) (List.getElem?_eq_getElem _))
        rwa [add_block, add_block] at this
      · rw [← Deep.add_add]
        exact (hz i hi).1 j x hj
    · simp at hi
      refine ⟨(z i).1, by simp [hi], ?_⟩
      simp only [List.getD_eq_getElem?_getD, List.getElem?_map, List.getElem?_range hi, Option.map_some, Option.getD_some]
      exact (hz i hi).2.2.1
    · obtain ⟨i, hi, rfl⟩ := List.mem_map.1 hr
      exact (hz i (List.mem_range.1 hi)).2.2.2
set_option maxRecDepth 100000 in
/-- an op, and a request, by value -/
theorem open_op {b0 : Nat} {v : Value} {d : DataW H} {p : List MemPlace} (hv : Value.okWide Try.prog w .any b0 38 v) (h : DataW.Trod enc Try.prog w base spare held 38 v d p) : ∃ kind id a, OpTold w v kind id a ∧ OpIn kind id a := by
  obtain ⟨cs, rfl, _⟩ : ∃ cs, v = .agg cs ∧ True := by
    have := hv
    simp [Value.okWide, Try.underlying38] at this
    obtain ⟨cs, h, _⟩ := this
    exact ⟨cs, h, trivial⟩
  obtain ⟨m, hm⟩ := h
  obtain ⟨kind, id, q, a, h1, h2, h3⟩ := open_opC (cs := cs.toList) (by simpa [Value.cells] using hm)
  refine ⟨kind, id, a, ⟨q, ?_, h2⟩, h3⟩
  rw [← h1]
set_option maxRecDepth 100000 in
theorem open_req {b0 : Nat} {v : Value} {d : DataW H} {p : List MemPlace} (hv : Value.okWide Try.prog w .any b0 40 v) (h : DataW.Trod enc Try.prog w base spare held 40 v d p) : ∃ r : ReqU RawV, ReqTold w v r ∧ ReqIn r := by
  obtain ⟨cs, rfl, _⟩ : ∃ cs, v = .agg cs ∧ True := by
    have := hv
    simp [Value.okWide, Try.underlying40] at this
    obtain ⟨cs, h, _⟩ := this
    exact ⟨cs, h, trivial⟩
  obtain ⟨m, hm⟩ := h
  obtain ⟨r, _, h1, h2⟩ := open_reqC (cs := cs.toList) (by simpa [Value.cells] using hm)
  exact ⟨r, by simpa using h1, h2⟩
end
end Go.Proofs.Ytloogjdojojehaa
namespace Go.Proofs.Ytloogjdojojehaa
open Go.RowKit
set_option linter.unusedVariables false

/-! ### what is known of what a vault holds -/
def VerS (a : RawV) : Prop := a.ok ∧ a.bl.length ≤ 1000 ∧ a.ns.length ≤ 1000 ∧ a.zs.length ≤ 1000
def RepS (x : RepU RawV) : Prop := x.ids.length ≤ 8 ∧ (∀ i ∈ x.ids, i < 4294967296) ∧ VerS x.ver
def StS (s : StU RawV) : Prop := OkR s ∧ (∀ v ∈ s.vers, VerS v) ∧ ∀ x ∈ s.last, RepS x
theorem verS_no : VerS noV := ⟨noV_ok, by decide, by decide, by decide⟩
theorem repS_wrong (e : Nat) : RepS (wrongU noV e) := ⟨Nat.zero_le _, (fun i h => by cases h), verS_no⟩
theorem repS_none (e : Nat) : RepS ⟨e, [], noV⟩ := ⟨Nat.zero_le _, (fun i h => by cases h), verS_no⟩
theorem stS_0 : StS (stU0 noV) := ⟨st_ok0 _ _ _, (fun v h => by cases h), fun x h => by
  simp [stU0] at h
  subst h
  exact repS_wrong 0⟩
theorem do_S {l : List RawV} (hv : VersU RawV.id mayR l) (h : ∀ v ∈ l, VerS v) (kind : Int) (id : Nat) {a : RawV} (ha : VerS a) : (∀ v ∈ (doR l kind id a).1, VerS v) ∧ RepS (doR l kind id a).2 := by
  have hids : ∀ m : List RawV, (∀ v ∈ m, v ∈ l) → m.length ≤ 8 → RepS ⟨0, m.map RawV.id, noV⟩ := fun m hm h8 => ⟨by rw [List.length_map]; exact h8, fun i hi => by
    obtain ⟨v, hv, rfl⟩ := List.mem_map.1 hi
    exact (h v (hm v hv)).1.1, verS_no⟩
  unfold doR doU
  by_cases k1 : kind = 1
  · rw [if_pos k1]
    split
    · split
      · exact ⟨h, repS_wrong 4⟩
      · split
        · exact ⟨h, repS_wrong 2⟩
        · refine ⟨fun v hv => ?_, repS_none 0⟩
          rcases List.mem_append.1 hv with hv | hv
          · exact h v hv
          · rw [List.mem_singleton.1 hv]; exact ha
    · exact ⟨h, repS_wrong 1⟩
  rw [if_neg k1]
  by_cases k2 : kind = 2
  · rw [if_pos k2]
    split
    · exact ⟨fun v hv => h v (List.mem_of_mem_eraseP hv), repS_none 0⟩
    · exact ⟨h, repS_wrong 3⟩
  rw [if_neg k2]
  by_cases k3 : kind = 3
  · rw [if_pos k3]
    refine ⟨fun v hv => h v (List.mem_of_mem_drop hv), hids _ (fun v hv => List.mem_of_mem_take hv) ?_⟩
    have := hv.few
    rw [List.length_take]; omega
  rw [if_neg k3]
  by_cases k4 : kind = 4
  · rw [if_pos k4]; exact ⟨h, hids l (fun v hv => hv) hv.few⟩
  rw [if_neg k4]
  by_cases k5 : kind = 5
  · rw [if_pos k5]
    cases hf : l.find? (fun v => decide (v.id = id)) with
    | none => exact ⟨h, repS_wrong 3⟩
    | some x => exact ⟨h, by simp, (fun i hi => by cases hi), h x (List.mem_of_find?_eq_some hf)⟩
  · rw [if_neg k5]; exact ⟨h, repS_wrong 180⟩
theorem lastS {s : StU RawV} (h : StS s) (i : Nat) : RepS (s.last.getD i (wrongU noV 0)) := by
  rw [List.getD_eq_getElem?_getD]
  cases hi : s.last[i]? with
  | none => exact repS_wrong 0
  | some x => exact h.2.2 x (List.mem_of_getElem? hi)
theorem apply_S {s : StU RawV} (h : StS s) {r : ReqU RawV} (hr : VerS r.ver) : StS (appR s r).1 ∧ RepS (appR s r).2 := by
  have hok := apply_ok RawV.id mayR noV h.1 r
  have hd := do_S h.1.vers h.2.1 r.kind r.id hr
  unfold appR applyU at hok ⊢
  by_cases h1 : r.client < 0 ∨ 3 ≤ r.client ∨ r.seq = 0
  · rw [if_pos h1] at hok ⊢; exact ⟨h, repS_wrong 170⟩
  rw [if_neg h1] at hok ⊢
  by_cases h2 : r.seq = s.seqs.getD r.client.toNat 0
  · rw [if_pos h2] at hok ⊢; exact ⟨h, lastS h _⟩
  rw [if_neg h2] at hok ⊢
  by_cases h3 : r.seq < s.seqs.getD r.client.toNat 0
  · rw [if_pos h3] at hok ⊢; exact ⟨h, repS_wrong 171⟩
  rw [if_neg h3] at hok ⊢
  refine ⟨⟨hok, hd.1, fun x hx => ?_⟩, hd.2⟩
  rcases List.mem_or_eq_of_mem_set hx with hx | rfl
  · exact h.2.2 x hx
  · exact hd.2
theorem allU_S : ∀ (l : List (ReqU RawV)) {s : StU RawV}, StS s → (∀ r ∈ l, VerS r.ver) → StS (allU RawV.id mayR noV s l).1 ∧ ∀ x ∈ (allU RawV.id mayR noV s l).2, RepS x
  | [], s, h, _ => ⟨h, fun x hx => by cases hx⟩
  | r :: l, s, h, hl => by
    have h1 := apply_S h (hl r (by simp))
    have h2 := allU_S l h1.1 fun r hr => hl r (by simp [hr])
    refine ⟨h2.1, fun x hx => ?_⟩
    rcases List.mem_cons.1 hx with rfl | hx
    · exact h1.2
    · exact h2.2 x hx
theorem all_S (l : List (ReqU RawV)) (hl : ∀ r ∈ l, VerS r.ver) : StS (allR l).1 ∧ ∀ x ∈ (allR l).2, RepS x := allU_S l stS_0 hl
theorem versS {s : StU RawV} (h : StS s) (i : Nat) (hi : i < s.vers.length) : VerS (s.vers.getD i noV) := by
  rw [List.getD_eq_getElem?_getD, List.getElem?_eq_getElem hi]
  exact h.2.1 _ (List.getElem_mem hi)
theorem verS_C {a : RawV} (h : VerS a) : VerOkC a := ⟨h.1, Nat.le_trans h.2.1 (by decide), Nat.le_trans h.2.2.1 (by decide), Nat.le_trans h.2.2.2 (by decide)⟩
theorem repS_ok {x : RepU RawV} (h : RepS x) : RepOk x := ⟨Nat.le_trans h.1 (by decide), (verS_C h.2.2).1, (verS_C h.2.2).2.1, (verS_C h.2.2).2.2.1, (verS_C h.2.2).2.2.2⟩
theorem stS_C {s : StU RawV} (h : StS s) : StOkC s := ⟨Nat.le_trans h.1.vers.few (by decide), fun i hi => verS_C (versS h i hi), fun i _ => repS_ok (lastS h i)⟩
/-! ### the record -/
end Go.Proofs.Ytloogjdojojehaa
namespace Go.Proofs.Ytloogjdojojehaa
open Go.RowKit
set_option linter.unusedVariables false

def muchV (a : RawV) : Bool := decide (40 < a.bl.length) || decide (40 < a.ns.length) || decide (40 < a.zs.length) || a.ns.any fun x => decide (100 < x.length)
theorem muchV_no {a : RawV} : muchV a = false ↔ a.bl.length ≤ 40 ∧ a.ns.length ≤ 40 ∧ a.zs.length ≤ 40 ∧ ∀ x ∈ a.ns, x.length ≤ 100 := by
  unfold muchV
  simp only [Bool.or_eq_false_iff, decide_eq_false_iff_not, List.any_eq_false, decide_eq_true_eq, Nat.not_lt, and_assoc]
theorem muchV_yes {a : RawV} {b : Bool} (hb : muchV a = b) (h : 40 < a.bl.length ∨ 40 < a.ns.length ∨ 40 < a.zs.length ∨ ∃ x ∈ a.ns, 100 < x.length) : true = b := by
  cases b with
  | true => rfl
  | false =>
    obtain ⟨h1, h2, h3, h4⟩ := muchV_no.1 hb
    rcases h with h | h | h | ⟨x, hx, h⟩
    · omega
    · omega
    · omega
    · have := h4 x hx
      omega
theorem addr_field {a : Addr} (h : a.spot = none) (m : Nat) : a.add m = ⟨a.block, a.off + m, none⟩ := by
  obtain ⟨b, o, s⟩ := a
  cases h
  rw [Addr.add_mid]
def heavyQ (l : List (ReqU RawV)) : Bool := decide (60 < l.length) || l.any fun r => muchV r.ver
theorem heavyQ_no {l : List (ReqU RawV)} : heavyQ l = false ↔ l.length ≤ 60 ∧ ∀ r ∈ l, muchV r.ver = false := by
  unfold heavyQ
  simp only [Bool.or_eq_false_iff, decide_eq_false_iff_not, List.any_eq_false, Nat.not_lt, Bool.not_eq_true]
theorem heavyQ_yes {l : List (ReqU RawV)} {b : Bool} (hb : heavyQ l = b) (h : 60 < l.length ∨ ∃ r ∈ l, muchV r.ver = true) : true = b := by
  cases b with
  | true => rfl
  | false =>
    obtain ⟨h1, h2⟩ := heavyQ_no.1 hb
    rcases h with h | ⟨r, hr, h⟩
    · omega
    · rw [h2 r hr] at h; cases h
theorem req_mem {l : List (ReqU RawV)} {j : Nat} (h : j < l.length) : l.getD j noQ ∈ l := by
  rw [List.getD_eq_getElem?_getD, List.getElem?_eq_getElem h]
  exact List.getElem_mem _
/-- requests of no more than may be are the vault's -/
theorem reqs_S {l : List (ReqU RawV)} (hin : ∀ r ∈ l, ReqIn r) (h : heavyQ l = false) : l.length ≤ 60 ∧ ∀ r ∈ l, r.id < 4294967296 ∧ r.seq < 4294967296 ∧ VerS r.ver := by
  obtain ⟨h1, h2⟩ := heavyQ_no.1 h
  refine ⟨h1, fun r hr => ?_⟩
  obtain ⟨_, q1, _, q2, q3⟩ := hin r hr
  obtain ⟨m1, m2, m3, _⟩ := muchV_no.1 (h2 r hr)
  exact ⟨q2, q1, q3.1, by omega, by omega, by omega⟩
theorem ver_S {a : RawV} (hin : VerIn a) (h : muchV a = false) : VerS a := by
  obtain ⟨m1, m2, m3, _⟩ := muchV_no.1 h
  exact ⟨hin.1, by omega, by omega, by omega⟩
end Go.Proofs.Ytloogjdojojehaa
namespace Go.Proofs.Ytloogjdojojehaa
open Go.RowKit
set_option linter.unusedVariables false

/-! ### the program's states in variables -/
theorem alloc_rv (w : World) : (Instr.alloc 32 true (.tuple #[])).run Try.prog w = .ok (.pointer (some ⟨w.heap.size, 0, none⟩)) (w.alloc (.cells zRp.toArray 32)) := by kernel_rfl
theorem own_cells {w : World} {base : Nat} {e : TypeId} {k : Nat} {v : Value} {rows : List (List Value)} (h : OwnR w base e k v rows) (hk : 0 < k) (hn : rows ≠ []) :
    ∃ g cap, v = .slice (some ⟨g, 0, none⟩) rows.length cap ∧ base ≤ g ∧ g < w.heap.size ∧ ∀ i r j x, rows[i]? = some r → r[j]? = some x → w.cell? ⟨g, i * k + j, none⟩ = some x := by
  have hsl := h.sl
  rcases h.2.2 with ⟨hv, h0⟩ | ⟨g, cap, cur, hv, hg, hh, _⟩
  · exact absurd (List.eq_nil_of_length_eq_zero h0) hn
  · subst hv
    refine ⟨g, cap, rfl, hg, (Array.getElem?_eq_some_iff.1 hh).1, fun i r j x hr hx => ?_⟩
    obtain ⟨_, p', c', e', hc⟩ := hsl
    cases e'
    obtain ⟨a, q1, q2, q3⟩ := hc i r hr
    cases q1
    have := q3 j x hx
    rwa [Addr.add_mid, Nat.zero_add] at this
def q7 : List (ReqU RawV) := [⟨1, 1, 1, 0, ⟨7, [], [], []⟩⟩, ⟨0, 3, 4, 0, noV⟩]
def cells7 : List Value := cellsQ 1 1 (cellsO 1 0 (cellsV 7 (.slice none 0 0) (.slice none 0 0) (.slice none 0 0))) ++ cellsQ 0 3 (cellsO 4 0 (cellsV 0 (.slice none 0 0) (.slice none 0 0) (.slice none 0 0)))
theorem vv_id (w : World) (id : Nat) : VV w (.agg (cellsV id (.slice none 0 0) (.slice none 0 0) (.slice none 0 0)).toArray) ⟨id, [], [], []⟩ := ⟨_, _, _, rfl, ⟨_, _, rfl⟩, ⟨_, _, rfl⟩, ⟨_, _, rfl⟩, Sl.none 32, Sl.none 1, Sl.none 1⟩
theorem reqs7 (w : World) (g : Nat) (h : Blk w g 40 cells7) : ReqsV w (.slice (some ⟨g, 0, none⟩) 2 2) q7 := by
  refine ⟨[cellsQ 1 1 (cellsO 1 0 (cellsV 7 (.slice none 0 0) (.slice none 0 0) (.slice none 0 0))), cellsQ 0 3 (cellsO 4 0 (cellsV 0 (.slice none 0 0) (.slice none 0 0) (.slice none 0 0)))], ?_, rfl, fun i hi => ?_⟩
  · refine ⟨fun r hr => ?_, some ⟨g, 0, none⟩, 2, rfl, fun i r hr => ⟨_, rfl, h.lt, fun j x hx => ?_⟩⟩
    · simp at hr
      rcases hr with rfl | rfl <;> rfl
    · rw [Addr.add_mid, Nat.zero_add, h.cell]
      rcases i with _ | _ | i
      · cases hr
        rw [← hx, Nat.zero_mul, Nat.zero_add]
        exact List.getElem?_append_left (List.getElem?_eq_some_iff.1 hx).1
      · cases hr
        rw [← hx]
        unfold cells7
        rw [Nat.one_mul, List.getElem?_append_right (by show 8 ≤ 8 + j; omega)]
        show (cellsQ 0 3 _)[8 + j - 8]? = _
        rw [Nat.add_sub_cancel_left]
      · simp at hr
  · rcases i with _ | _ | i
    · exact ⟨_, rfl, _, rfl, vv_id w 7⟩
    · exact ⟨_, rfl, _, rfl, vv_id w 0⟩
    · exact absurd hi (by show ¬ i + 1 + 1 < 2; omega)
theorem all7 : allR q7 = (⟨[⟨7, [], [], []⟩], [3, 1, 0], [⟨0, [7], noV⟩, ⟨0, [], noV⟩, ⟨0, [], noV⟩]⟩, [⟨0, [], noV⟩, ⟨0, [7], noV⟩]) := by rfl
theorem ok7 : ∀ r ∈ q7, r.id < 4294967296 ∧ r.seq < 4294967296 ∧ VerS r.ver := by
  have h : ∀ id < 4294967296, VerS ⟨id, [], [], []⟩ := fun id hid => ⟨⟨hid, (fun x h => by cases h), (fun x h => by cases h), fun x h => by cases h⟩, Nat.zero_le _, Nat.zero_le _, Nat.zero_le _⟩
  intro r hr
  simp [q7] at hr
  rcases hr with rfl | rfl
  · exact ⟨by decide, by decide, h 7 (by decide)⟩
  · exact ⟨by decide, by decide, h 0 (by decide)⟩
end Go.Proofs.Ytloogjdojojehaa
namespace Go.Proofs.Ytloogjdojojehaa
open Go.RowKit
set_option linter.unusedVariables false

/-- a state and a reply, each in a new variable -/
structure TwoV (st : TypeId) (w : World) (b : Nat) (T X : List Value) (wN : World) : Prop where
  a0 : w.heap.size = b
  a1 : (w.alloc (.cells zS.toArray st)).heap.size = b + 1
  k0 : Blk ((w.alloc (.cells zS.toArray st)).alloc (.cells zRp.toArray 32)) b st zS
  k1 : Blk (((w.alloc (.cells zS.toArray st)).alloc (.cells zRp.toArray 32)).setRow b T.toArray) (b + 1) 32 zRp
  eq : (((w.alloc (.cells zS.toArray st)).alloc (.cells zRp.toArray 32)).setRow b T.toArray).setRow (b + 1) X.toArray = wN
  kT : Blk wN b st T
  kX : Blk wN (b + 1) 32 X
  bl : Below w.heap.size w wN
  lT : zS.length = T.length ∧ T.toArray.all (·.oneCell') = true
  lX : (Try.prog.info? 32).map (·.size) = some X.length ∧ zRp.length = X.length ∧ X.toArray.all (·.oneCell') = true
theorem twoV (st : TypeId) (w : World) (b : Nat) (hb : w.heap.size = b) (T X : List Value) (hT : T.length = 22) (oT : T.toArray.all (·.oneCell') = true) (hX : X.length = 6) (oX : X.toArray.all (·.oneCell') = true) : ∃ wN, TwoV st w b T X wN := by
  have a1 : (w.alloc (.cells zS.toArray st)).heap.size = b + 1 := by simp [hb]
  have k0 : Blk ((w.alloc (.cells zS.toArray st)).alloc (.cells zRp.toArray 32)) b st zS := by rw [← hb]; exact (Blk.new' w st zS rfl).alloc _
  have k1 : Blk (((w.alloc (.cells zS.toArray st)).alloc (.cells zRp.toArray 32)).setRow b T.toArray) (b + 1) 32 zRp := by
    rw [← a1]
    exact (Blk.new' (w.alloc (.cells zS.toArray st)) 32 zRp rfl).rowOther (by omega) _
  have kT := k0.row T (by rw [hT]; rfl)
  have bl := below_setRow (below_setRow (((Below.refl w.heap.size w).alloc (Nat.le_refl _) (.cells zS.toArray st)).alloc (by simp) (.cells zRp.toArray 32)) (Nat.le_of_eq hb) T.toArray) (show w.heap.size ≤ b + 1 by omega) X.toArray
  exact ⟨_, hb, a1, k0, k1, rfl, kT.rowOther (by omega) _, k1.row X (by rw [hX]; rfl), bl, ⟨by rw [hT]; rfl, oT⟩, by rw [size_rep, hX], by rw [hX]; rfl, oX⟩
/-- a state in a new variable -/
structure OneV (st : TypeId) (w : World) (b : Nat) (T : List Value) (wN : World) : Prop where
  a0 : w.heap.size = b
  k0 : Blk (w.alloc (.cells zS.toArray st)) b st zS
  eq : (w.alloc (.cells zS.toArray st)).setRow b T.toArray = wN
  kT : Blk wN b st T
  bl : Below w.heap.size w wN
  lT : zS.length = T.length ∧ T.toArray.all (·.oneCell') = true
theorem oneV (st : TypeId) (w : World) (b : Nat) (hb : w.heap.size = b) (T : List Value) (hT : T.length = 22) (oT : T.toArray.all (·.oneCell') = true) : ∃ wN, OneV st w b T wN := by
  have k0 : Blk (w.alloc (.cells zS.toArray st)) b st zS := by rw [← hb]; exact Blk.new' w st zS rfl
  exact ⟨_, hb, k0, rfl, k0.row T (by rw [hT]; rfl), below_setRow ((Below.refl w.heap.size w).alloc (Nat.le_refl _) _) (Nat.le_of_eq hb) _, by rw [hT]; rfl, oT⟩
/-- a state's row, a reply's row -/
theorem st_row {w : World} {v : Value} {s : StU RawV} (h : StTold w v s) : ∃ S : List Value, v = .agg S.toArray ∧ S.length = 22 ∧ S.toArray.all (·.oneCell') = true := by
  obtain ⟨S, _, _, e, h1, h2, _⟩ := st_cells h
  exact ⟨S, e, h1, h2⟩
theorem req_one {w : World} {cl : Int} {sq : Nat} {kd : Int} {id : Nat} {q : List Value} {a : RawV} (h : VV w (.agg q.toArray) a) : (cellsQ cl sq (cellsO kd id q)).toArray.all (·.oneCell') = true := by
  obtain ⟨pb, cb, pn, cn, pz, cz, rfl⟩ := h.row
  simp [cellsQ, cellsO, cellsV, Value.oneCell']
/-- a slice of one request -/
theorem one_req {w : World} {g : Nat} {R q : List Value} {r : ReqU RawV} (k : Blk w g 40 R) (hR : R = cellsQ r.client r.seq (cellsO r.kind r.id q)) (hv : VV w (.agg q.toArray) r.ver) : ReqsV w (.slice (some ⟨g, 0, none⟩) 1 1) [r] := by
  have hl := hv.len
  refine ⟨[R], ⟨fun x hx => ?_, some ⟨g, 0, none⟩, 1, rfl, fun i x hx => ⟨_, rfl, k.lt, fun j y hy => ?_⟩⟩, rfl, fun i hi => ?_⟩
  · rw [List.mem_singleton.1 hx, hR]
    show q.length + 4 = 8
    omega
  · rcases i with _ | i
    · cases hx
      rw [Addr.add_mid, Nat.zero_add, Nat.zero_mul, Nat.zero_add, k.cell]
      exact hy
    · simp at hx
  · obtain rfl : i = 0 := by have : i < 1 := hi; omega
    exact ⟨R, rfl, q, by rw [hR]; rfl, hv⟩
def zRq : List Value := cellsQ 0 0 (cellsO 0 0 (cellsV 0 (.slice none 0 0) (.slice none 0 0) (.slice none 0 0)))
theorem info_reqV : (Try.prog.info? 40).map (fun i => (i.zero, i.size)) = some (some (.agg zRq.toArray), 8) := by kernel_rfl
theorem info_req1 : ∃ i, Try.prog.info? 40 = some i ∧ i.zero = some (.agg zRq.toArray) ∧ i.size = 8 := by
  cases hi : Try.prog.info? 40 with
  | none => have := info_reqV; rw [hi] at this; cases this
  | some i =>
    have := info_reqV
    rw [hi] at this
    simp at this
    exact ⟨i, rfl, this.1, this.2⟩
section
variable {P : Program} {ops : Array Oper} {rest : List Oper} {o : Oper} {a : Act} {w : World} {Q : Exit → Act → World → Prop}
theorem wpList_buildRowG (hgd : Region.wanted o (yielded ops a.tmps) = true) (t e : TypeId) (parts : Array (Nat × Operand)) (ho : o.op = .buildSlice t 1 parts) (r : List Value) (ie : TypeInfo) (z : Value) (N : Nat) (hN : w.heap.size = N)
    (hu : P.underlying t = some (.slice e)) (hie : P.info? e = some ie) (hz : ie.zero = some z) (hk : ie.size = r.length) (h0 : 0 < r.length) (h1 : r.length ≤ 1000) (hp : (parts.map fun (i, x) => (i, a.eval x)).toList = [(0, .agg r.toArray)])
    (h : wpList P ops Q rest (a.put o.dst (.slice (some ⟨N, 0, none⟩) 1 1)) (w.alloc (.cells r.toArray e))) : wpList P ops Q (o :: rest) a w := by
  subst hN
  unfold wpList
  rw [if_pos hgd]
  exact .inl (wp_buildSlice t e 1 parts ho r.toArray ie z hu hie hz (by rw [hk]; omega) (by rw [hk]; omega) (by rw [hp]; exact fill_row _ _ r hk.symm (by rw [hk]; simp)) h)
end
end Go.Proofs.Ytloogjdojojehaa
