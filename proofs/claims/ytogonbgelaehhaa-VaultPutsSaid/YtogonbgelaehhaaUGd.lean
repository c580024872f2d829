/- Ops, requests and rows of requests as arguments (stage 17). -/
import Derived.Test.YtogonbgelaehhaaUGb
import Derived.Test.YtogonbgelaehhaaURfF
import Derived.Test.YtogonbgelaehhaaUGc
import Derived.Test.YtogonbgelaehhaaURfI
import Derived.Test.YtogonbgelaehhaaG4
import Derived.BigQuiet
import Derived.Test.YtogonbgelaehhaaGrd
namespace Go.Proofs.Ytogonbgelaehhaa
open Go.RowKit Go.ChangeShapes Go.WideShapes
set_option linter.unusedVariables false

/-- what is known of a version that is handed in -/
def VerIn (a : RawV) : Prop := a.ok ∧ a.bl.length ≤ maxLen ∧ a.ns.length ≤ maxLen ∧ a.zs.length ≤ maxLen
def OpIn (kind : Int) (id : Nat) (a : RawV) : Prop := (Lit.int .i64 kind).wf = true ∧ id < 4294967296 ∧ VerIn a
def ReqIn (r : ReqU RawV) : Prop := (Lit.int .i64 r.client).wf = true ∧ r.seq < 4294967296 ∧ OpIn r.kind r.id r.ver
theorem four_of {α : Type} {l : List α} (h : l.length = 4) : ∃ a b c d, l = [a, b, c, d] := by
  match l, h with
  | [a, b, c, d], _ => exact ⟨a, b, c, d, rfl⟩
theorem three_of {α : Type} {l : List α} (h : l.length = 3) : ∃ a b c, l = [a, b, c] := by
  match l, h with
  | [a, b, c], _ => exact ⟨a, b, c, rfl⟩
theorem two_more {α : Type} {l : List α} {n : Nat} (h : l.length = n + 2) : ∃ a b q, l = a :: b :: q ∧ q.length = n := by
  match l, h with
  | a :: b :: q, h => exact ⟨a, b, q, rfl, by simpa using h⟩
theorem choose_of {β : Type} {len : Nat} {p : Nat → β → Prop} (d : β) (h : ∀ i, i < len → ∃ z, p i z) : ∃ z : Nat → β, ∀ i, i < len → p i (z i) := by
  refine ⟨fun i => if hi : i < len then (h i hi).choose else d, fun i hi => ?_⟩
  simp only [hi, dif_pos]
  exact (h i hi).choose_spec
section
variable {H : Type} {enc : TypeId × Value → H} {w : World} {base : Nat} {spare : Nat → Bool} {held : Bool}
set_option maxRecDepth 100000 in
theorem open_verC {n : Nat} {cs : List Value} {x : DataW H × List MemPlace} (h : DataW.trod enc Try.prog w base spare held n 28 cs = some x) : ∃ a : RawV, VV w (.agg cs.toArray) a ∧ VerIn a := by
  obtain ⟨xs, m, _, _, hl, hx, hf⟩ := DataW.trod_struct Try.underlying28 h
  have hC : Try.prog.cellsOf 28 = 4 := by kernel_rfl
  obtain ⟨v0, v1, v2, v3, rfl⟩ := four_of (hl.trans hC)
  obtain ⟨y0, y1, y2, y3, rfl⟩ := four_of hx
  have c1 : Try.prog.cellsOf 23 = 1 := by kernel_rfl
  have c2 : Try.prog.cellsOf 24 = 1 := by kernel_rfl
  have c3 : Try.prog.cellsOf 25 = 1 := by kernel_rfl
  have c4 : Try.prog.cellsOf 26 = 1 := by kernel_rfl
  have g0 := hf 0 _ rfl
  have g1 := hf 1 _ rfl
  have g2 := hf 2 _ rfl
  have g3 := hf 3 _ rfl
  have h0 : DataW.trod enc Try.prog w base spare held m 23 [v0] = some y0 := by
    have g : DataW.trod enc Try.prog w base spare held m 23 (([v0, v1, v2, v3].drop 0).take (Try.prog.cellsOf 23)) = some y0 := g0
    rw [c1] at g
    exact g
  have h1 : DataW.trod enc Try.prog w base spare held m 24 [v1] = some y1 := by
    have g : DataW.trod enc Try.prog w base spare held m 24 (([v0, v1, v2, v3].drop 1).take (Try.prog.cellsOf 24)) = some y1 := g1
    rw [c2] at g
    exact g
  have h2 : DataW.trod enc Try.prog w base spare held m 25 [v2] = some y2 := by
    have g : DataW.trod enc Try.prog w base spare held m 25 (([v0, v1, v2, v3].drop 2).take (Try.prog.cellsOf 25)) = some y2 := g2
    rw [c3] at g
    exact g
  have h3 : DataW.trod enc Try.prog w base spare held m 26 [v3] = some y3 := by
    have g : DataW.trod enc Try.prog w base spare held m 26 (([v0, v1, v2, v3].drop 3).take (Try.prog.cellsOf 26)) = some y3 := g3
    rw [c4] at g
    exact g
  clear g0 g1 g2 g3 hf h
  obtain ⟨k, e0, _, w0⟩ := DataW.trod_int Try.underlying23 h0
  obtain ⟨k, rfl, hk⟩ := nat_u32 k w0
  obtain ⟨p1, n1, q1', rfl⟩ := slice_shape Try.underlying24 h1
  obtain ⟨p2, n2, q2', rfl⟩ := slice_shape Try.underlying25 h2
  obtain ⟨p3, n3, q3', rfl⟩ := slice_shape Try.underlying26 h3
  obtain ⟨bl, rfl, s1, q1, _, m1, m1'⟩ := open_hashes (d := y1.1) (p := y1.2) ⟨m, h1⟩
  obtain ⟨ns, rfl, s2, q2, _, m2, m2'⟩ := open_texts (d := y2.1) (p := y2.2) ⟨m, h2⟩
  obtain ⟨zs, rfl, s3, q3, m3⟩ := open_nums (d := y3.1) (p := y3.2) Try.underlying26 Try.underlying3 (by kernel_rfl) ⟨m, h3⟩
  have e1 : v0 = .int .u32 (k : Int) := by simpa using e0
  subst e1
  exact ⟨⟨k, bl, ns, zs⟩, ⟨_, _, _, rfl, ⟨_, _, rfl⟩, ⟨_, _, rfl⟩, ⟨_, _, rfl⟩, s1, s2, s3⟩, ⟨hk, q1, q2, q3⟩, by show bl.length ≤ maxLen; omega, by show ns.length ≤ maxLen; omega, m3⟩
set_option maxRecDepth 100000 in
theorem open_opC {n : Nat} {cs : List Value} {x : DataW H × List MemPlace} (h : DataW.trod enc Try.prog w base spare held n 30 cs = some x) : ∃ kind id q a, cs = cellsO kind id q ∧ VV w (.agg q.toArray) a ∧ OpIn kind id a := by
  obtain ⟨xs, m, _, _, hl, hx, hf⟩ := DataW.trod_struct Try.underlying30 h
  have hC : Try.prog.cellsOf 30 = 6 := by kernel_rfl
  obtain ⟨v0, v1, q, rfl, hq⟩ := two_more (n := 4) (hl.trans hC)
  obtain ⟨y0, y1, y2, rfl⟩ := three_of hx
  have c1 : Try.prog.cellsOf 3 = 1 := by kernel_rfl
  have c2 : Try.prog.cellsOf 23 = 1 := by kernel_rfl
  have c3 : Try.prog.cellsOf 28 = 4 := by kernel_rfl
  have g0 := hf 0 _ rfl
  have g1 := hf 1 _ rfl
  have g2 := hf 2 _ rfl
  have h0 : DataW.trod enc Try.prog w base spare held m 3 [v0] = some y0 := by
    have g : DataW.trod enc Try.prog w base spare held m 3 (((v0 :: v1 :: q).drop 0).take (Try.prog.cellsOf 3)) = some y0 := g0
    rw [c1] at g
    exact g
  have h1 : DataW.trod enc Try.prog w base spare held m 23 [v1] = some y1 := by
    have g : DataW.trod enc Try.prog w base spare held m 23 (((v0 :: v1 :: q).drop 1).take (Try.prog.cellsOf 23)) = some y1 := g1
    rw [c2] at g
    exact g
  have h2 : DataW.trod enc Try.prog w base spare held m 28 q = some y2 := by
    have g : DataW.trod enc Try.prog w base spare held m 28 ((q).take (Try.prog.cellsOf 28)) = some y2 := g2
    rw [c3] at g
    rwa [List.take_of_length_le (by omega)] at g
  obtain ⟨k, e0, _, w0⟩ := DataW.trod_int Try.underlying3 h0
  obtain ⟨i, e1, _, w1⟩ := DataW.trod_int Try.underlying23 h1
  obtain ⟨i, rfl, hi⟩ := nat_u32 i w1
  obtain ⟨a, hv, ha⟩ := open_verC h2
  obtain rfl : v0 = .int .i64 k := by simpa using e0
  obtain rfl : v1 = .int .u32 (i : Int) := by simpa using e1
  exact ⟨k, i, q, a, rfl, hv, w0, hi, ha⟩
set_option maxRecDepth 100000 in
theorem open_reqC {n : Nat} {cs : List Value} {x : DataW H × List MemPlace} (h : DataW.trod enc Try.prog w base spare held n 60 cs = some x) : ∃ r : ReqU RawV, cs.length = 8 ∧ ReqTold w (.agg cs.toArray) r ∧ ReqIn r := by
  obtain ⟨xs, m, _, _, hl, hx, hf⟩ := DataW.trod_struct Try.underlying60 h
  have hC : Try.prog.cellsOf 60 = 8 := by kernel_rfl
  obtain ⟨v0, v1, q, rfl, hq⟩ := two_more (n := 6) (hl.trans hC)
  obtain ⟨y0, y1, y2, rfl⟩ := three_of hx
  have c1 : Try.prog.cellsOf 3 = 1 := by kernel_rfl
  have c2 : Try.prog.cellsOf 23 = 1 := by kernel_rfl
  have c3 : Try.prog.cellsOf 30 = 6 := by kernel_rfl
  have g0 := hf 0 _ rfl
  have g1 := hf 1 _ rfl
  have g2 := hf 2 _ rfl
  have h0 : DataW.trod enc Try.prog w base spare held m 3 [v0] = some y0 := by
    have g : DataW.trod enc Try.prog w base spare held m 3 (((v0 :: v1 :: q).drop 0).take (Try.prog.cellsOf 3)) = some y0 := g0
    rw [c1] at g
    exact g
  have h1 : DataW.trod enc Try.prog w base spare held m 23 [v1] = some y1 := by
    have g : DataW.trod enc Try.prog w base spare held m 23 (((v0 :: v1 :: q).drop 1).take (Try.prog.cellsOf 23)) = some y1 := g1
    rw [c2] at g
    exact g
  have h2 : DataW.trod enc Try.prog w base spare held m 30 q = some y2 := by
    have g : DataW.trod enc Try.prog w base spare held m 30 ((q).take (Try.prog.cellsOf 30)) = some y2 := g2
    rw [c3] at g
    rwa [List.take_of_length_le (by omega)] at g
  obtain ⟨k, e0, _, w0⟩ := DataW.trod_int Try.underlying3 h0
  obtain ⟨i, e1, _, w1⟩ := DataW.trod_int Try.underlying23 h1
  obtain ⟨i, rfl, hi⟩ := nat_u32 i w1
  obtain ⟨kind, id, q', a, rfl, hv, ha⟩ := open_opC h2
  obtain rfl : v0 = .int .i64 k := by simpa using e0
  obtain rfl : v1 = .int .u32 (i : Int) := by simpa using e1
  exact ⟨⟨k, i, kind, id, a⟩, by simpa using hq, ⟨q', rfl, hv⟩, w0, hi, ha⟩
set_option maxRecDepth 100000 in
/-- a slice of requests -/
theorem open_reqs {p0 : Option Addr} {len cap : Nat} {d : DataW H} {p : List MemPlace} (h : DataW.Trod enc Try.prog w base spare held 22 (.slice p0 len cap) d p) :
    ∃ l : List (ReqU RawV), l.length = len ∧ ReqsV w (.slice p0 len cap) l ∧ (∀ r ∈ l, ReqIn r) ∧ len ≤ maxLen ∧ (Value.slice p0 len cap = .slice none 0 0 ∨ ((∃ a, p0 = some a) ∧ len ≤ cap)) := by
  obtain ⟨m, hm⟩ := h
  have hcells : (Value.slice p0 len cap).cells.toList = [.slice p0 len cap] := rfl
  rw [hcells] at hm
  have hC : Try.prog.cellsOf 60 = 8 := by kernel_rfl
  rcases Go.Deep.open_slice Try.underlying22 hm with ⟨hcs, _⟩ | ⟨a, len', cap', m', n, D, Pl, hcs, hb, hl, hcap, hmm, hx, hi⟩
  · cases hcs
    exact ⟨[], rfl, ⟨[], Sl.none 8, rfl, fun i h => by simp at h⟩, (fun q h => (by cases h)), by simp [maxLen], .inl rfl⟩
  · cases hcs
    rw [hC] at hi
    have hlm : len ≤ m' := by rw [hmm]; split <;> omega
    have each : ∀ i, i < len → ∃ z : List Value × ReqU RawV, (∀ j v, z.1[j]? = some v → w.cell? ((a.add (i * 8)).add j) = some v) ∧ z.1.length = 8 ∧ ReqTold w (.agg z.1.toArray) z.2 ∧ ReqIn z.2 := fun i hil => by
      obtain ⟨cs, hc, ht⟩ := hi i (by omega)
      obtain ⟨_, hcl, hat⟩ := World.cells?_some hc
      obtain ⟨r, h8, h1, h2⟩ := open_reqC ht
      refine ⟨(cs, r), fun j v hv => ?_, h8, h1, h2⟩
      have hj : j < 8 := by
        have := (List.getElem?_eq_some_iff.1 hv).1
        rw [h8] at this
        exact this
      rw [hat j hj]
      exact hv
    obtain ⟨z, hz⟩ : ∃ z : Nat → List Value × ReqU RawV, ∀ i, i < len → (∀ j v, (z i).1[j]? = some v → w.cell? ((a.add (i * 8)).add j) = some v) ∧ (z i).1.length = 8 ∧ ReqTold w (.agg (z i).1.toArray) (z i).2 ∧ ReqIn (z i).2 := choose_of ([], noQ) each
    refine ⟨(List.range len).map fun i => (z i).2, by simp, ⟨(List.range len).map fun i => (z i).1, ?_, by simp, fun i hi => ?_⟩, fun r hr => ?_, by omega, .inr ⟨⟨_, rfl⟩, hl⟩⟩
    · refine rows_of a len cap _ (fun i hi => (hz i hi).2.1) (fun h0 => ?_) (fun i hi j x hj => ?_)
      · have h1 := hz 0 h0
        have := cell_lt (h1.1 0 ((z 0).1[0]'(by rw [h1.2.1]; decide)) (List.getElem?_eq_getElem _))
        rwa [add_block, add_block] at this
      · rw [← Deep.add_add]
        exact (hz i hi).1 j x hj
    · simp at hi
      refine ⟨(z i).1, by simp [hi], ?_⟩
      simp only [List.getD_eq_getElem?_getD, List.getElem?_map, List.getElem?_range hi, Option.map_some, Option.getD_some]
      exact (hz i hi).2.2.1
    · obtain ⟨i, hi, rfl⟩ := List.mem_map.1 hr
      exact (hz i (List.mem_range.1 hi)).2.2.2
set_option maxRecDepth 100000 in
/-- an op, and a request, by value -/
theorem open_op {b0 : Nat} {v : Value} {d : DataW H} {p : List MemPlace} (hv : Value.okWide Try.prog w .any b0 30 v) (h : DataW.Trod enc Try.prog w base spare held 30 v d p) : ∃ kind id a, OpTold w v kind id a ∧ OpIn kind id a := by
  obtain ⟨cs, rfl, _⟩ : ∃ cs, v = .agg cs ∧ True := by
    have := hv
    simp [Value.okWide, Try.underlying30] at this
    obtain ⟨cs, h, _⟩ := this
    exact ⟨cs, h, trivial⟩
  obtain ⟨m, hm⟩ := h
  obtain ⟨kind, id, q, a, h1, h2, h3⟩ := open_opC (cs := cs.toList) (by simpa [Value.cells] using hm)
  refine ⟨kind, id, a, ⟨q, ?_, h2⟩, h3⟩
  rw [← h1]
set_option maxRecDepth 100000 in
theorem open_req {b0 : Nat} {v : Value} {d : DataW H} {p : List MemPlace} (hv : Value.okWide Try.prog w .any b0 60 v) (h : DataW.Trod enc Try.prog w base spare held 60 v d p) : ∃ r : ReqU RawV, ReqTold w v r ∧ ReqIn r := by
  obtain ⟨cs, rfl, _⟩ : ∃ cs, v = .agg cs ∧ True := by
    have := hv
    simp [Value.okWide, Try.underlying60] at this
    obtain ⟨cs, h, _⟩ := this
    exact ⟨cs, h, trivial⟩
  obtain ⟨m, hm⟩ := h
  obtain ⟨r, _, h1, h2⟩ := open_reqC (cs := cs.toList) (by simpa [Value.cells] using hm)
  exact ⟨r, by simpa using h1, h2⟩
end
end Go.Proofs.Ytogonbgelaehhaa
namespace Go.Proofs.Ytogonbgelaehhaa
open Go.RowKit
set_option linter.unusedVariables false

/-! ### what is known of what a vault holds -/
def VerS (a : RawV) : Prop := a.ok ∧ a.bl.length ≤ 1000 ∧ a.ns.length ≤ 1000 ∧ a.zs.length ≤ 1000
def RepS (x : RepU RawV) : Prop := x.ids.length ≤ 8 ∧ (∀ i ∈ x.ids, i < 4294967296) ∧ VerS x.ver
def StS (s : StU RawV) : Prop := OkR s ∧ (∀ v ∈ s.vers, VerS v) ∧ ∀ x ∈ s.last, RepS x
theorem verS_no : VerS noV := ⟨noV_ok, by decide, by decide, by decide⟩
theorem repS_wrong (e : Nat) : RepS (wrongU noV e) := ⟨Nat.zero_le _, (fun i h => by cases h), verS_no⟩
theorem repS_none (e : Nat) : RepS ⟨e, [], noV⟩ := ⟨Nat.zero_le _, (fun i h => by cases h), verS_no⟩
theorem stS_0 : StS (stU0 noV) := ⟨st_ok0 _ _ _, (fun v h => by cases h), fun x h => by
  simp [stU0] at h
  subst h
  exact repS_wrong 0⟩
theorem do_S {l : List RawV} (hv : VersU RawV.id mayR l) (h : ∀ v ∈ l, VerS v) (kind : Int) (id : Nat) {a : RawV} (ha : VerS a) : (∀ v ∈ (doR l kind id a).1, VerS v) ∧ RepS (doR l kind id a).2 := by
  have hids : ∀ m : List RawV, (∀ v ∈ m, v ∈ l) → m.length ≤ 8 → RepS ⟨0, m.map RawV.id, noV⟩ := fun m hm h8 => ⟨by rw [List.length_map]; exact h8, fun i hi => by
    obtain ⟨v, hv, rfl⟩ := List.mem_map.1 hi
    exact (h v (hm v hv)).1.1, verS_no⟩
  unfold doR doU
  by_cases k1 : kind = 1
  · rw [if_pos k1]
    split
    · split
      · exact ⟨h, repS_wrong 4⟩
      · split
        · exact ⟨h, repS_wrong 2⟩
        · refine ⟨fun v hv => ?_, repS_none 0⟩
          rcases List.mem_append.1 hv with hv | hv
          · exact h v hv
          · rw [List.mem_singleton.1 hv]; exact ha
    · exact ⟨h, repS_wrong 1⟩
  rw [if_neg k1]
  by_cases k2 : kind = 2
  · rw [if_pos k2]
    split
    · exact ⟨fun v hv => h v (List.mem_of_mem_eraseP hv), repS_none 0⟩
    · exact ⟨h, repS_wrong 3⟩
  rw [if_neg k2]
  by_cases k3 : kind = 3
  · rw [if_pos k3]
    refine ⟨fun v hv => h v (List.mem_of_mem_drop hv), hids _ (fun v hv => List.mem_of_mem_take hv) ?_⟩
    have := hv.few
    rw [List.length_take]; omega
  rw [if_neg k3]
  by_cases k4 : kind = 4
  · rw [if_pos k4]; exact ⟨h, hids l (fun v hv => hv) hv.few⟩
  rw [if_neg k4]
  by_cases k5 : kind = 5
  · rw [if_pos k5]
    cases hf : l.find? (fun v => decide (v.id = id)) with
    | none => exact ⟨h, repS_wrong 3⟩
    | some x => exact ⟨h, by simp, (fun i hi => by cases hi), h x (List.mem_of_find?_eq_some hf)⟩
  · rw [if_neg k5]; exact ⟨h, repS_wrong 180⟩
theorem lastS {s : StU RawV} (h : StS s) (i : Nat) : RepS (s.last.getD i (wrongU noV 0)) := by
  rw [List.getD_eq_getElem?_getD]
  cases hi : s.last[i]? with
  | none => exact repS_wrong 0
  | some x => exact h.2.2 x (List.mem_of_getElem? hi)
theorem apply_S {s : StU RawV} (h : StS s) {r : ReqU RawV} (hr : VerS r.ver) : StS (appR s r).1 ∧ RepS (appR s r).2 := by
  have hok := apply_ok RawV.id mayR noV h.1 r
  have hd := do_S h.1.vers h.2.1 r.kind r.id hr
  unfold appR applyU at hok ⊢
  by_cases h1 : r.client < 0 ∨ 3 ≤ r.client ∨ r.seq = 0
  · rw [if_pos h1] at hok ⊢; exact ⟨h, repS_wrong 170⟩
  rw [if_neg h1] at hok ⊢
  by_cases h2 : r.seq = s.seqs.getD r.client.toNat 0
  · rw [if_pos h2] at hok ⊢; exact ⟨h, lastS h _⟩
  rw [if_neg h2] at hok ⊢
  by_cases h3 : r.seq < s.seqs.getD r.client.toNat 0
  · rw [if_pos h3] at hok ⊢; exact ⟨h, repS_wrong 171⟩
  rw [if_neg h3] at hok ⊢
  refine ⟨⟨hok, hd.1, fun x hx => ?_⟩, hd.2⟩
  rcases List.mem_or_eq_of_mem_set hx with hx | rfl
  · exact h.2.2 x hx
  · exact hd.2
theorem allU_S : ∀ (l : List (ReqU RawV)) {s : StU RawV}, StS s → (∀ r ∈ l, VerS r.ver) → StS (allU RawV.id mayR noV s l).1 ∧ ∀ x ∈ (allU RawV.id mayR noV s l).2, RepS x
  | [], s, h, _ => ⟨h, fun x hx => by cases hx⟩
  | r :: l, s, h, hl => by
    have h1 := apply_S h (hl r (by simp))
    have h2 := allU_S l h1.1 fun r hr => hl r (by simp [hr])
    refine ⟨h2.1, fun x hx => ?_⟩
    rcases List.mem_cons.1 hx with rfl | hx
    · exact h1.2
    · exact h2.2 x hx
theorem all_S (l : List (ReqU RawV)) (hl : ∀ r ∈ l, VerS r.ver) : StS (allR l).1 ∧ ∀ x ∈ (allR l).2, RepS x := allU_S l stS_0 hl
theorem versS {s : StU RawV} (h : StS s) (i : Nat) (hi : i < s.vers.length) : VerS (s.vers.getD i noV) := by
  rw [List.getD_eq_getElem?_getD, List.getElem?_eq_getElem hi]
  exact h.2.1 _ (List.getElem_mem hi)
theorem verS_C {a : RawV} (h : VerS a) : VerOkC a := ⟨h.1, Nat.le_trans h.2.1 (by decide), Nat.le_trans h.2.2.1 (by decide), Nat.le_trans h.2.2.2 (by decide)⟩
theorem repS_ok {x : RepU RawV} (h : RepS x) : RepOk x := ⟨Nat.le_trans h.1 (by decide), (verS_C h.2.2).1, (verS_C h.2.2).2.1, (verS_C h.2.2).2.2.1, (verS_C h.2.2).2.2.2⟩
theorem stS_C {s : StU RawV} (h : StS s) : StOkC s := ⟨Nat.le_trans h.1.vers.few (by decide), fun i hi => verS_C (versS h i hi), fun i _ => repS_ok (lastS h i)⟩
/-! ### the record -/
structure VaultKit : Prop where
  do_ : ∀ (s : StU RawV) (v vo : Value) (kind : Int) (id : Nat) (a : RawV) (w : World) (lo : Nat) (hlo : lo ≤ w.heap.size) (hs : StTold (er lo w) v s) (ho : OpTold (er lo w) vo kind id a) (hg : StS s) (hid : id < 4294967296) (ha : VerS a),
    Calls Try.prog 21 #[v, vo] w (DoRet lo s (doR s.vers kind id a).1 (doR s.vers kind id a).2 w)
  apply : ∀ (s : StU RawV) (v vq : Value) (r : ReqU RawV) (w : World) (lo : Nat) (hlo : lo ≤ w.heap.size) (hs : StTold (er lo w) v s) (hq : ReqTold (er lo w) vq r) (hg : StS s) (hr : r.id < 4294967296 ∧ r.seq < 4294967296 ∧ VerS r.ver),
    Calls Try.prog 23 #[v, vq] w (ApRet lo (appR s r).1 (appR s r).2 w)
  all : ∀ (l : List (ReqU RawV)) (p : Option Addr) (c : Nat) (w : World) (lo : Nat) (hlo : lo ≤ w.heap.size) (hl : l.length ≤ 1000) (hq : ReqsV (er lo w) (.slice p l.length c) l) (hok : ∀ r ∈ l, r.id < 4294967296 ∧ r.seq < 4294967296 ∧ VerS r.ver),
    Calls Try.prog 13 #[.slice p l.length c] w fun e w' => ∃ v' vo rows, e = .returned (.tuple #[v', vo]) ∧ StTold (er lo w') v' (allR l).1 ∧ OwnR w' w.heap.size 39 6 vo rows ∧ TellRs (er lo w') rows (allR l).2 ∧ Below w.heap.size w w'
  live : ∀ (s : StU RawV) (v : Value) (w : World) (hA : StTold w v s) (hg : StS s),
    Calls Try.prog 17 #[v] w fun e w' => ∃ vo, e = .returned vo ∧ OwnR w' w.heap.size 64 32 vo (rowsH (liveU (blksV s.vers))) ∧ Below w.heap.size w w'
  same : ∀ (x y : RepU RawV) (R Q : List Value) (r : Bool) (w : World) (hr : sameR x y = r) (hA : RepOkV w R x) (hB : RepOkV w Q y) (ha : RepS x) (hb : RepS y),
    Calls Try.prog 20 #[.agg R.toArray, .agg Q.toArray] w fun e w' => e = .returned (.bool r) ∧ Below w.heap.size w w'
end Go.Proofs.Ytogonbgelaehhaa
namespace Go.Proofs.Ytogonbgelaehhaa
open Go.RowKit
set_option linter.unusedVariables false

def muchV (a : RawV) : Bool := decide (40 < a.bl.length) || decide (40 < a.ns.length) || decide (40 < a.zs.length) || a.ns.any fun x => decide (100 < x.length)
theorem muchV_no {a : RawV} : muchV a = false ↔ a.bl.length ≤ 40 ∧ a.ns.length ≤ 40 ∧ a.zs.length ≤ 40 ∧ ∀ x ∈ a.ns, x.length ≤ 100 := by
  unfold muchV
  simp only [Bool.or_eq_false_iff, decide_eq_false_iff_not, List.any_eq_false, decide_eq_true_eq, Nat.not_lt, and_assoc]
theorem muchV_yes {a : RawV} {b : Bool} (hb : muchV a = b) (h : 40 < a.bl.length ∨ 40 < a.ns.length ∨ 40 < a.zs.length ∨ ∃ x ∈ a.ns, 100 < x.length) : true = b := by
  cases b with
  | true => rfl
  | false =>
    obtain ⟨h1, h2, h3, h4⟩ := muchV_no.1 hb
    rcases h with h | h | h | ⟨x, hx, h⟩
    · omega
    · omega
    · omega
    · have := h4 x hx
      omega
set_option maxRecDepth 100000 in
set_option maxHeartbeats 2000000 in
theorem l17_much (a : RawV) (v : Value) (b : Bool) (w : World) (hb : muchV a = b) (hV : VV w v a) :
    Calls Try.prog 11 #[v] w fun e w' => e = .returned (.bool b) ∧ Below w.heap.size w w' := by
  obtain ⟨v1, v2, v3, rfl, ⟨pb, cb, rfl⟩, ⟨pn, cn, rfl⟩, ⟨pz, cz, rfl⟩, sb, sn, sz⟩ := hV
  obtain ⟨ia, la, na, za⟩ := a
  dsimp only at *
  obtain ⟨B, hBB⟩ : ∃ B, w.heap.size = B := ⟨_, rfl⟩
  have k0 := Blk.newAt w B hBB 28 (c := (cellsV ia (.slice pb la.length cb) (.slice pn na.length cn) (.slice pz za.length cz)).toArray) _ rfl
  have c1 : (w.alloc (.cells (cellsV ia (.slice pb la.length cb) (.slice pn na.length cn) (.slice pz za.length cz)).toArray 28)).cell? ⟨B, 1, none⟩ = some (.slice pb la.length cb) := by rw [k0.cell]; rfl
  have c2 : (w.alloc (.cells (cellsV ia (.slice pb la.length cb) (.slice pn na.length cn) (.slice pz za.length cz)).toArray 28)).cell? ⟨B, 2, none⟩ = some (.slice pn na.length cn) := by rw [k0.cell]; rfl
  have c3 : (w.alloc (.cells (cellsV ia (.slice pb la.length cb) (.slice pn na.length cn) (.slice pz za.length cz)).toArray 28)).cell? ⟨B, 3, none⟩ = some (.slice pz za.length cz) := by rw [k0.cell]; rfl
  have KB := Lib.hid ((Below.refl w.heap.size w).alloc (Nat.le_refl _) (.cells (cellsV ia (.slice pb la.length cb) (.slice pn na.length cn) (.slice pz za.length cz)).toArray 28))
  have K0 := Lib.hid k0
  have HB := Lib.hid hb
  have SN := Lib.hid sn
  clear k0 sb sn sz hb
  by_cases g1 : 40 < la.length
  · have HN := Lib.hid (muchV_yes HB.out (.inl g1))
    have d1 : (40 : Int) < (la.length : Int) := by omega
    clear g1
    go_enter Try.func11, Try.ntmps11
    go_wp2
    go_ret
    exact ⟨congrArg (fun x => Ending.returned (.bool x)) HN.out, by first | exact KB.out | (have h := KB.out; rw [hBB] at h; exact h)⟩
  have d1 : ¬ (40 : Int) < (la.length : Int) := by omega
  by_cases g2 : 40 < na.length
  · have HN := Lib.hid (muchV_yes HB.out (.inr (.inl g2)))
    have d2 : (40 : Int) < (na.length : Int) := by omega
    clear g1 g2
    go_enter Try.func11, Try.ntmps11
    go_wp2
    go_ret
    exact ⟨congrArg (fun x => Ending.returned (.bool x)) HN.out, by first | exact KB.out | (have h := KB.out; rw [hBB] at h; exact h)⟩
  have d2 : ¬ (40 : Int) < (na.length : Int) := by omega
  by_cases g3 : 40 < za.length
  · have HN := Lib.hid (muchV_yes HB.out (.inr (.inr (.inl g3))))
    have d3 : (40 : Int) < (za.length : Int) := by omega
    clear g1 g2 g3
    go_enter Try.func11, Try.ntmps11
    go_wp2
    go_ret
    exact ⟨congrArg (fun x => Ending.returned (.bool x)) HN.out, by first | exact KB.out | (have h := KB.out; rw [hBB] at h; exact h)⟩
  have d3 : ¬ (40 : Int) < (za.length : Int) := by omega
  have G := Lib.hid (show la.length ≤ 40 ∧ na.length ≤ 40 ∧ za.length ≤ 40 by omega)
  clear g1 g2 g3
  go_enter Try.func11, Try.ntmps11
  go_wp2
  clear c1 c2 c3 d1 d2 d3
  go_loopw [3] (fun i wr => ∃ j : Nat, j ≤ na.length ∧ i = .int .i64 (j : Int) ∧ (∀ k, k < j → (na.getD k []).length ≤ 100) ∧ Blk wr B 28 (cellsV ia (.slice pb la.length cb) (.slice pn na.length cn) (.slice pz za.length cz)) ∧ Below w.heap.size w wr) (fun i _ => na.length - (intOf i).toNat)
  case atStart => exact ⟨0, by omega, rfl, (fun k h => by omega), K0.out, KB.out⟩
  case round =>
    obtain ⟨j, hj, rfl, hf, b0, gb⟩ := hrel
    clear K0 KB
    have HF := Lib.hid hf
    have x2 := b0.cell 2
    simp only [cellsV, List.getElem?_cons_zero, List.getElem?_cons_succ] at x2
    have B0 := Lib.hid b0
    clear hf b0
    by_cases hlt : j < na.length
    · have q40 : na.length ≤ 40 := G.out.2.1
      obtain ⟨an, rfl, y1⟩ := SlS.cell (SN.out.below gb) hlt
      have dj : (j : Int) < (na.length : Int) := by omega
      have hz := tx_size (na.getD j [])
      by_cases hn : 100 < (na.getD j []).length
      · have HN := Lib.hid (muchV_yes HB.out (.inr (.inr (.inr ⟨_, getN_mem hlt, hn⟩))))
        have d4 : (100 : Int) < ((tx (na.getD j [])).size : Int) := by omega
        clear hz hn
        generalize tx (na.getD j []) = X at *
        go_wp2
        go_ret
        exact ⟨congrArg (fun x => Ending.returned (.bool x)) HN.out, gb⟩
      · have HN := Lib.hid hn
        have d4 : ¬ (100 : Int) < ((tx (na.getD j [])).size : Int) := by omega
        clear hz hn
        generalize tx (na.getD j []) = X at *
        go_wp2
        go_roundw
        case rel => exact ⟨j + 1, by omega, by go_num, (fun k hk => by
          rcases Nat.lt_or_ge k j with h | h
          · exact HF.out k h
          · obtain rfl : k = j := by omega
            exact Nat.le_of_not_lt HN.out), B0.out, gb⟩
        case measure => (simp [intOf]; have := G.out.2.1; omega)
    · obtain rfl : j = na.length := by omega
      have HN : Hid (false = b) := Lib.hid (by
        rw [← HB.out]
        refine (muchV_no.2 ⟨G.out.1, G.out.2.1, G.out.2.2, fun x hx => ?_⟩).symm
        obtain ⟨k, hk, rfl⟩ := List.getElem_of_mem hx
        have := HF.out k hk
        rwa [List.getD_eq_getElem?_getD, List.getElem?_eq_getElem hk] at this)
      go_wp2
      go_ret
      exact ⟨congrArg (fun x => Ending.returned (.bool x)) HN.out, gb⟩
theorem addr_field {a : Addr} (h : a.spot = none) (m : Nat) : a.add m = ⟨a.block, a.off + m, none⟩ := by
  obtain ⟨b, o, s⟩ := a
  cases h
  rw [Addr.add_mid]
def heavyQ (l : List (ReqU RawV)) : Bool := decide (60 < l.length) || l.any fun r => muchV r.ver
theorem heavyQ_no {l : List (ReqU RawV)} : heavyQ l = false ↔ l.length ≤ 60 ∧ ∀ r ∈ l, muchV r.ver = false := by
  unfold heavyQ
  simp only [Bool.or_eq_false_iff, decide_eq_false_iff_not, List.any_eq_false, Nat.not_lt, Bool.not_eq_true]
theorem heavyQ_yes {l : List (ReqU RawV)} {b : Bool} (hb : heavyQ l = b) (h : 60 < l.length ∨ ∃ r ∈ l, muchV r.ver = true) : true = b := by
  cases b with
  | true => rfl
  | false =>
    obtain ⟨h1, h2⟩ := heavyQ_no.1 hb
    rcases h with h | ⟨r, hr, h⟩
    · omega
    · rw [h2 r hr] at h; cases h
theorem req_mem {l : List (ReqU RawV)} {j : Nat} (h : j < l.length) : l.getD j noQ ∈ l := by
  rw [List.getD_eq_getElem?_getD, List.getElem?_eq_getElem h]
  exact List.getElem_mem _
/-- requests of no more than may be are the vault's -/
theorem reqs_S {l : List (ReqU RawV)} (hin : ∀ r ∈ l, ReqIn r) (h : heavyQ l = false) : l.length ≤ 60 ∧ ∀ r ∈ l, r.id < 4294967296 ∧ r.seq < 4294967296 ∧ VerS r.ver := by
  obtain ⟨h1, h2⟩ := heavyQ_no.1 h
  refine ⟨h1, fun r hr => ?_⟩
  obtain ⟨_, q1, _, q2, q3⟩ := hin r hr
  obtain ⟨m1, m2, m3, _⟩ := muchV_no.1 (h2 r hr)
  exact ⟨q2, q1, q3.1, by omega, by omega, by omega⟩
theorem ver_S {a : RawV} (hin : VerIn a) (h : muchV a = false) : VerS a := by
  obtain ⟨m1, m2, m3, _⟩ := muchV_no.1 h
  exact ⟨hin.1, by omega, by omega, by omega⟩
set_option maxRecDepth 100000 in
set_option maxHeartbeats 2000000 in
theorem l17_heavy (l : List (ReqU RawV)) (p : Option Addr) (c : Nat) (b : Bool) (w : World) (hb : heavyQ l = b) (hq : ReqsV w (.slice p l.length c) l) :
    Calls Try.prog 10 #[.slice p l.length c] w fun e w' => e = .returned (.bool b) ∧ Below w.heap.size w w' := by
  have HB := Lib.hid hb
  have HQ := Lib.hid hq
  clear hq hb
  by_cases g1 : 60 < l.length
  · have HN := Lib.hid (heavyQ_yes HB.out (.inl g1))
    have d1 : (60 : Int) < (l.length : Int) := by omega
    clear g1
    go_enter Try.func10, Try.ntmps10
    go_wp2
    go_ret
    exact ⟨congrArg (fun x => Ending.returned (.bool x)) HN.out, Below.refl _ _⟩
  have d1 : ¬ (60 : Int) < (l.length : Int) := by omega
  have G := Lib.hid (show l.length ≤ 60 by omega)
  clear g1
  go_enter Try.func10, Try.ntmps10
  go_wp2
  clear d1
  go_loopw [3] (fun i wr => ∃ j : Nat, j ≤ l.length ∧ i = .int .i64 (j : Int) ∧ (∀ k, k < j → muchV (l.getD k noQ).ver = false) ∧ Below w.heap.size w wr) (fun i _ => l.length - (intOf i).toNat)
  case atStart => exact ⟨0, by omega, rfl, (fun k h => by omega), Below.refl _ _⟩
  case round =>
    obtain ⟨j, hj, rfl, hf, gb⟩ := hrel
    have HF := Lib.hid hf
    have GB := Lib.hid gb
    clear hf gb
    by_cases hlt : j < l.length
    · have q60 : l.length ≤ 60 := G.out
      obtain ⟨ad, row, rfl, hadl, ⟨q, hrow, hv⟩, hrl, hcel⟩ := (HQ.out.below GB.out).at hlt
      have hrow2 : row = cellsQ (l.getD j noQ).client (l.getD j noQ).seq (cellsO (l.getD j noQ).kind (l.getD j noQ).id q) := by
        have := congrArg (fun v => match v with | Value.agg c => c.toList | _ => []) hrow
        simpa using this
      have hql := hv.len
      have hsp : (ad.add (j * 8)).spot = none := by
        have := hcel 0 (.int .i64 (l.getD j noQ).client) (by rw [hrow2]; rfl)
        exact World.cell?_spot this
      have hqc : ∀ m x, q[m]? = some x → wr.cell? ((⟨(ad.add (j * 8)).block, (ad.add (j * 8)).off + 2 + 2, none⟩ : Addr).add m) = some x := fun m x hx => by
        have := hcel (4 + m) x (by rw [hrow2, Nat.add_comm]; exact hx)
        rw [addr_field hsp] at this
        rw [Addr.add_mid, ← this]
        congr 2
        omega
      have HMU := Lib.hid (fun b hb => l17_much (l.getD j noQ).ver (.agg q.toArray) b wr hb hv)
      have HQC := Lib.hid hqc
      have HQL := Lib.hid hql
      have dj : (j : Int) < (l.length : Int) := by omega
      clear hrow hv hrl hcel hrow2 hql hqc hadl hsp
      go_wp2_with (refine wpList_load_addr rfl 28 _ rfl ⟨(ad.add (j * 8)).block, (ad.add (j * 8)).off + 2 + 2, none⟩ rfl q HQC.out Try.underlying28 rfl (by rw [size_ver, HQL.out]) ?_)
      cases hm : muchV (l.getD j noQ).ver with
      | true =>
        have HN := Lib.hid (heavyQ_yes HB.out (.inr ⟨_, req_mem hlt, hm⟩))
        have HM := Lib.hid (HMU.out true hm)
        clear hm
        (with_reducible refine HM.out.mono ?_)
        rintro e w2 ⟨rfl, hb2⟩
        have HB2 := Lib.hid (GB.out.trans (hb2.mono GB.out.size))
        clear hb2
        go_wp2
        go_ret
        exact ⟨congrArg (fun x => Ending.returned (.bool x)) HN.out, HB2.out⟩
      | false =>
        have HN := Lib.hid hm
        have HM := Lib.hid (HMU.out false hm)
        clear hm
        (with_reducible refine HM.out.mono ?_)
        rintro e w2 ⟨rfl, hb2⟩
        have HB2 := Lib.hid (GB.out.trans (hb2.mono GB.out.size))
        clear hb2
        go_wp2
        go_roundw
        case rel => exact ⟨j + 1, by omega, by go_num, (fun k hk => by
          rcases Nat.lt_or_ge k j with h | h
          · exact HF.out k h
          · obtain rfl : k = j := by omega
            exact HN.out), HB2.out⟩
        case measure => (simp [intOf]; have := G.out; omega)
    · obtain rfl : j = l.length := by omega
      have HN : Hid (false = b) := Lib.hid (by
        rw [← HB.out]
        refine (heavyQ_no.2 ⟨G.out, fun x hx => ?_⟩).symm
        obtain ⟨k, hk, rfl⟩ := List.getElem_of_mem hx
        have := HF.out k hk
        rwa [List.getD_eq_getElem?_getD, List.getElem?_eq_getElem hk] at this)
      go_wp2
      go_ret
      exact ⟨congrArg (fun x => Ending.returned (.bool x)) HN.out, GB.out⟩
end Go.Proofs.Ytogonbgelaehhaa
namespace Go.Proofs.Ytogonbgelaehhaa
open Go.RowKit
set_option linter.unusedVariables false

/-! ### the program's states in variables -/
theorem size_sv : (Try.prog.info? 42).map (·.size) = some 22 := by kernel_rfl
theorem alloc_sv (w : World) : (Instr.alloc 42 true (.tuple #[])).run Try.prog w = .ok (.pointer (some ⟨w.heap.size, 0, none⟩)) (w.alloc (.cells zS.toArray 42)) := by kernel_rfl
theorem alloc_rv (w : World) : (Instr.alloc 39 true (.tuple #[])).run Try.prog w = .ok (.pointer (some ⟨w.heap.size, 0, none⟩)) (w.alloc (.cells zRp.toArray 39)) := by kernel_rfl
theorem own_cells {w : World} {base : Nat} {e : TypeId} {k : Nat} {v : Value} {rows : List (List Value)} (h : OwnR w base e k v rows) (hk : 0 < k) (hn : rows ≠ []) :
    ∃ g cap, v = .slice (some ⟨g, 0, none⟩) rows.length cap ∧ base ≤ g ∧ g < w.heap.size ∧ ∀ i r j x, rows[i]? = some r → r[j]? = some x → w.cell? ⟨g, i * k + j, none⟩ = some x := by
  have hsl := h.sl
  rcases h.2.2 with ⟨hv, h0⟩ | ⟨g, cap, cur, hv, hg, hh, _⟩
  · exact absurd (List.eq_nil_of_length_eq_zero h0) hn
  · subst hv
    refine ⟨g, cap, rfl, hg, (Array.getElem?_eq_some_iff.1 hh).1, fun i r j x hr hx => ?_⟩
    obtain ⟨_, p', c', e', hc⟩ := hsl
    cases e'
    obtain ⟨a, q1, q2, q3⟩ := hc i r hr
    cases q1
    have := q3 j x hx
    rwa [Addr.add_mid, Nat.zero_add] at this
def q7 : List (ReqU RawV) := [⟨1, 1, 1, 0, ⟨7, [], [], []⟩⟩, ⟨0, 3, 4, 0, noV⟩]
def cells7 : List Value := cellsQ 1 1 (cellsO 1 0 (cellsV 7 (.slice none 0 0) (.slice none 0 0) (.slice none 0 0))) ++ cellsQ 0 3 (cellsO 4 0 (cellsV 0 (.slice none 0 0) (.slice none 0 0) (.slice none 0 0)))
theorem vv_id (w : World) (id : Nat) : VV w (.agg (cellsV id (.slice none 0 0) (.slice none 0 0) (.slice none 0 0)).toArray) ⟨id, [], [], []⟩ := ⟨_, _, _, rfl, ⟨_, _, rfl⟩, ⟨_, _, rfl⟩, ⟨_, _, rfl⟩, Sl.none 32, Sl.none 1, Sl.none 1⟩
theorem reqs7 (w : World) (g : Nat) (h : Blk w g 60 cells7) : ReqsV w (.slice (some ⟨g, 0, none⟩) 2 2) q7 := by
  refine ⟨[cellsQ 1 1 (cellsO 1 0 (cellsV 7 (.slice none 0 0) (.slice none 0 0) (.slice none 0 0))), cellsQ 0 3 (cellsO 4 0 (cellsV 0 (.slice none 0 0) (.slice none 0 0) (.slice none 0 0)))], ?_, rfl, fun i hi => ?_⟩
  · refine ⟨fun r hr => ?_, some ⟨g, 0, none⟩, 2, rfl, fun i r hr => ⟨_, rfl, h.lt, fun j x hx => ?_⟩⟩
    · simp at hr
      rcases hr with rfl | rfl <;> rfl
    · rw [Addr.add_mid, Nat.zero_add, h.cell]
      rcases i with _ | _ | i
      · cases hr
        rw [← hx, Nat.zero_mul, Nat.zero_add]
        exact List.getElem?_append_left (List.getElem?_eq_some_iff.1 hx).1
      · cases hr
        rw [← hx]
        unfold cells7
        rw [Nat.one_mul, List.getElem?_append_right (by show 8 ≤ 8 + j; omega)]
        show (cellsQ 0 3 _)[8 + j - 8]? = _
        rw [Nat.add_sub_cancel_left]
      · simp at hr
  · rcases i with _ | _ | i
    · exact ⟨_, rfl, _, rfl, vv_id w 7⟩
    · exact ⟨_, rfl, _, rfl, vv_id w 0⟩
    · exact absurd hi (by show ¬ i + 1 + 1 < 2; omega)
theorem all7 : allR q7 = (⟨[⟨7, [], [], []⟩], [3, 1, 0], [⟨0, [7], noV⟩, ⟨0, [], noV⟩, ⟨0, [], noV⟩]⟩, [⟨0, [], noV⟩, ⟨0, [7], noV⟩]) := by rfl
theorem ok7 : ∀ r ∈ q7, r.id < 4294967296 ∧ r.seq < 4294967296 ∧ VerS r.ver := by
  have h : ∀ id < 4294967296, VerS ⟨id, [], [], []⟩ := fun id hid => ⟨⟨hid, (fun x h => by cases h), (fun x h => by cases h), fun x h => by cases h⟩, Nat.zero_le _, Nat.zero_le _, Nat.zero_le _⟩
  intro r hr
  simp [q7] at hr
  rcases hr with rfl | rfl
  · exact ⟨by decide, by decide, h 7 (by decide)⟩
  · exact ⟨by decide, by decide, h 0 (by decide)⟩
set_option maxRecDepth 100000 in
set_option maxHeartbeats 2000000 in
theorem l17_shown (K : VaultKit) (w : World) :
    Calls Try.prog 12 #[] w fun e w' => e = .returned (.bool true) ∧ Below w.heap.size w w' := by
  obtain ⟨g, hg⟩ : ∃ g, w.heap.size = g := ⟨_, rfl⟩
  obtain ⟨w1, hw1⟩ : ∃ w1, w.alloc (.cells #[.int .i64 1, .int .u32 1, .int .i64 1, .int .u32 0, .int .u32 7, .slice none 0 0, .slice none 0 0, .slice none 0 0, .int .i64 0, .int .u32 3, .int .i64 4, .int .u32 0, .int .u32 0, .slice none 0 0, .slice none 0 0, .slice none 0 0] 60) = w1 := ⟨_, rfl⟩
  have k1 : Blk w1 g 60 cells7 := by rw [← hw1, ← hg]; exact Blk.new' w 60 cells7 rfl
  have b1 : Below w.heap.size w w1 := by rw [← hw1]; exact (Below.refl w.heap.size w).alloc (Nat.le_refl _) _
  have hq : ReqsV (er w1.heap.size w1) (.slice (some ⟨g, 0, none⟩) 2 2) q7 := (reqs7 w1 g k1).below (below_er (Below.refl _ _))
  have HA := Lib.hid (K.all q7 (some ⟨g, 0, none⟩) 2 w1 w1.heap.size (Nat.le_refl _) (by decide) hq ok7)
  rw [all7] at HA
  have HB1 := Lib.hid b1
  clear k1 b1 hq
  go_enter Try.func12, Try.ntmps12
  go_wp2_with fail
  refine HA.out.mono ?_
  rintro e w2 ⟨v', vo, rows, rfl, hst, hro, ⟨hrl, hre⟩, hb2⟩
  obtain ⟨S, _, _, rfl, hSl, hSo, _⟩ := st_cells hst
  obtain ⟨ga, cap, rfl, hga, hgl, hcel⟩ := own_cells hro (by decide) (by intro e; rw [e] at hrl; cases hrl)
  obtain ⟨R0, e0, vi0, q0, rfl, ⟨p0, c0, rfl⟩, _, hv0⟩ := hre 0 (by decide)
  obtain ⟨R1, e1, vi1, q1, rfl, ⟨p1, c1, rfl⟩, hs1, hv1⟩ := hre 1 (by decide)
  have x0 : w2.cell? ⟨ga, 0, none⟩ = some (.int .i64 0) := hcel 0 _ 0 _ e0 rfl
  have x6 : w2.cell? ⟨ga, 6, none⟩ = some (.int .i64 0) := hcel 1 _ 0 _ e1 rfl
  have x7 : w2.cell? ⟨ga, 7, none⟩ = some (.slice p1 1 c1) := hcel 1 _ 1 _ e1 rfl
  obtain ⟨a7, rfl, y7⟩ := SlU.cell (l := [7]) (hs1.sub (er_sub _ w2)) (j := 0) (by decide)
  have a7' : w2.cell? (a7.add 0) = some (.int .u32 7) := y7
  obtain ⟨y, hy⟩ : ∃ y, w2.heap.size = y := ⟨_, rfl⟩
  obtain ⟨w3, hw3⟩ : ∃ w3, (w2.alloc (.cells zS.toArray 42)).setRow y S.toArray = w3 := ⟨_, rfl⟩
  have ky : Blk (w2.alloc (.cells zS.toArray 42)) y 42 zS := by rw [← hy]; exact Blk.new' w2 42 zS rfl
  have b3 : Below w2.heap.size w2 w3 := by rw [← hw3]; exact below_setRow ((Below.refl w2.heap.size w2).alloc (Nat.le_refl _) _) (Nat.le_of_eq hy) _
  have x0' := (b3.cell (p := ⟨ga, 0, none⟩) hgl).trans x0
  have x6' := (b3.cell (p := ⟨ga, 6, none⟩) hgl).trans x6
  have x7' := (b3.cell (p := ⟨ga, 7, none⟩) hgl).trans x7
  have a8 : w3.cell? (a7.add 0) = some (.int .u32 7) := (b3.cell (cell_lt a7')).trans a7'
  rw [show a7.add 0 = a7 by cases a7; simp [Addr.add]] at a8
  have KY := Lib.hid ky
  have HY := Lib.hid hy
  have HSL : Hid ((Try.prog.info? 42).map (·.size) = some S.length ∧ zS.length = S.length ∧ S.toArray.all (·.oneCell') = true) := Lib.hid ⟨by rw [size_sv, hSl], by rw [hSl]; rfl, hSo⟩
  have HB3 := Lib.hid ((HB1.out.trans (hb2.mono HB1.out.size)).trans (b3.mono (by have := HB1.out.size; have := hb2.size; omega)))
  have HLN : rows.length = 2 := hrl
  clear x0 x6 x7 a7' y7 hs1 hv0 hv1 e0 e1 hcel hgl hga hre hro hst hSl hSo hb2 b3 ky HA
  rw [HLN]
  clear HLN hrl
  go_wp2_with (first | (refine wpList_alloc_n rfl 42 rfl y HY.out _ (alloc_sv _) ?_) | (refine wpList_store_blk rfl 42 _ _ rfl y S (by first | rfl | rw [hy]) rfl KY.out HSL.out.1 HSL.out.2.1 HSL.out.2.2 ?_; rw [hw3]))
  go_ret
  exact ⟨rfl, HB3.out⟩
end Go.Proofs.Ytogonbgelaehhaa
namespace Go.Proofs.Ytogonbgelaehhaa
open Go.RowKit
set_option linter.unusedVariables false

/-- a state and a reply, each in a new variable -/
structure TwoV (st : TypeId) (w : World) (b : Nat) (T X : List Value) (wN : World) : Prop where
  a0 : w.heap.size = b
  a1 : (w.alloc (.cells zS.toArray st)).heap.size = b + 1
  k0 : Blk ((w.alloc (.cells zS.toArray st)).alloc (.cells zRp.toArray 39)) b st zS
  k1 : Blk (((w.alloc (.cells zS.toArray st)).alloc (.cells zRp.toArray 39)).setRow b T.toArray) (b + 1) 39 zRp
  eq : (((w.alloc (.cells zS.toArray st)).alloc (.cells zRp.toArray 39)).setRow b T.toArray).setRow (b + 1) X.toArray = wN
  kT : Blk wN b st T
  kX : Blk wN (b + 1) 39 X
  bl : Below w.heap.size w wN
  lT : zS.length = T.length ∧ T.toArray.all (·.oneCell') = true
  lX : (Try.prog.info? 39).map (·.size) = some X.length ∧ zRp.length = X.length ∧ X.toArray.all (·.oneCell') = true
theorem twoV (st : TypeId) (w : World) (b : Nat) (hb : w.heap.size = b) (T X : List Value) (hT : T.length = 22) (oT : T.toArray.all (·.oneCell') = true) (hX : X.length = 6) (oX : X.toArray.all (·.oneCell') = true) : ∃ wN, TwoV st w b T X wN := by
  have a1 : (w.alloc (.cells zS.toArray st)).heap.size = b + 1 := by simp [hb]
  have k0 : Blk ((w.alloc (.cells zS.toArray st)).alloc (.cells zRp.toArray 39)) b st zS := by rw [← hb]; exact (Blk.new' w st zS rfl).alloc _
  have k1 : Blk (((w.alloc (.cells zS.toArray st)).alloc (.cells zRp.toArray 39)).setRow b T.toArray) (b + 1) 39 zRp := by
    rw [← a1]
    exact (Blk.new' (w.alloc (.cells zS.toArray st)) 39 zRp rfl).rowOther (by omega) _
  have kT := k0.row T (by rw [hT]; rfl)
  have bl := below_setRow (below_setRow (((Below.refl w.heap.size w).alloc (Nat.le_refl _) (.cells zS.toArray st)).alloc (by simp) (.cells zRp.toArray 39)) (Nat.le_of_eq hb) T.toArray) (show w.heap.size ≤ b + 1 by omega) X.toArray
  exact ⟨_, hb, a1, k0, k1, rfl, kT.rowOther (by omega) _, k1.row X (by rw [hX]; rfl), bl, ⟨by rw [hT]; rfl, oT⟩, by rw [size_rep, hX], by rw [hX]; rfl, oX⟩
/-- a state in a new variable -/
structure OneV (st : TypeId) (w : World) (b : Nat) (T : List Value) (wN : World) : Prop where
  a0 : w.heap.size = b
  k0 : Blk (w.alloc (.cells zS.toArray st)) b st zS
  eq : (w.alloc (.cells zS.toArray st)).setRow b T.toArray = wN
  kT : Blk wN b st T
  bl : Below w.heap.size w wN
  lT : zS.length = T.length ∧ T.toArray.all (·.oneCell') = true
theorem oneV (st : TypeId) (w : World) (b : Nat) (hb : w.heap.size = b) (T : List Value) (hT : T.length = 22) (oT : T.toArray.all (·.oneCell') = true) : ∃ wN, OneV st w b T wN := by
  have k0 : Blk (w.alloc (.cells zS.toArray st)) b st zS := by rw [← hb]; exact Blk.new' w st zS rfl
  exact ⟨_, hb, k0, rfl, k0.row T (by rw [hT]; rfl), below_setRow ((Below.refl w.heap.size w).alloc (Nat.le_refl _) _) (Nat.le_of_eq hb) _, by rw [hT]; rfl, oT⟩
/-- a state's row, a reply's row -/
theorem st_row {w : World} {v : Value} {s : StU RawV} (h : StTold w v s) : ∃ S : List Value, v = .agg S.toArray ∧ S.length = 22 ∧ S.toArray.all (·.oneCell') = true := by
  obtain ⟨S, _, _, e, h1, h2, _⟩ := st_cells h
  exact ⟨S, e, h1, h2⟩
theorem size_sv2 {S : List Value} (h : S.length = 22) : (Try.prog.info? 42).map (·.size) = some S.length := by rw [size_sv, h]
theorem size_st2 {S : List Value} (h : S.length = 22) : (Try.prog.info? 46).map (·.size) = some S.length := by rw [size_st, h]
theorem req_one {w : World} {cl : Int} {sq : Nat} {kd : Int} {id : Nat} {q : List Value} {a : RawV} (h : VV w (.agg q.toArray) a) : (cellsQ cl sq (cellsO kd id q)).toArray.all (·.oneCell') = true := by
  obtain ⟨pb, cb, pn, cn, pz, cz, rfl⟩ := h.row
  simp [cellsQ, cellsO, cellsV, Value.oneCell']
/-- a slice of one request -/
theorem one_req {w : World} {g : Nat} {R q : List Value} {r : ReqU RawV} (k : Blk w g 60 R) (hR : R = cellsQ r.client r.seq (cellsO r.kind r.id q)) (hv : VV w (.agg q.toArray) r.ver) : ReqsV w (.slice (some ⟨g, 0, none⟩) 1 1) [r] := by
  have hl := hv.len
  refine ⟨[R], ⟨fun x hx => ?_, some ⟨g, 0, none⟩, 1, rfl, fun i x hx => ⟨_, rfl, k.lt, fun j y hy => ?_⟩⟩, rfl, fun i hi => ?_⟩
  · rw [List.mem_singleton.1 hx, hR]
    show q.length + 4 = 8
    omega
  · rcases i with _ | i
    · cases hx
      rw [Addr.add_mid, Nat.zero_add, Nat.zero_mul, Nat.zero_add, k.cell]
      exact hy
    · simp at hx
  · obtain rfl : i = 0 := by have : i < 1 := hi; omega
    exact ⟨R, rfl, q, by rw [hR]; rfl, hv⟩
def zRq : List Value := cellsQ 0 0 (cellsO 0 0 (cellsV 0 (.slice none 0 0) (.slice none 0 0) (.slice none 0 0)))
theorem info_reqV : (Try.prog.info? 60).map (fun i => (i.zero, i.size)) = some (some (.agg zRq.toArray), 8) := by kernel_rfl
theorem info_req1 : ∃ i, Try.prog.info? 60 = some i ∧ i.zero = some (.agg zRq.toArray) ∧ i.size = 8 := by
  cases hi : Try.prog.info? 60 with
  | none => have := info_reqV; rw [hi] at this; cases this
  | some i =>
    have := info_reqV
    rw [hi] at this
    simp at this
    exact ⟨i, rfl, this.1, this.2⟩
section
variable {P : Program} {ops : Array Oper} {rest : List Oper} {o : Oper} {a : Act} {w : World} {Q : Exit → Act → World → Prop}
theorem wpList_buildRowG (hgd : Region.wanted o (yielded ops a.tmps) = true) (t e : TypeId) (parts : Array (Nat × Operand)) (ho : o.op = .buildSlice t 1 parts) (r : List Value) (ie : TypeInfo) (z : Value) (N : Nat) (hN : w.heap.size = N)
    (hu : P.underlying t = some (.slice e)) (hie : P.info? e = some ie) (hz : ie.zero = some z) (hk : ie.size = r.length) (h0 : 0 < r.length) (h1 : r.length ≤ 1000) (hp : (parts.map fun (i, x) => (i, a.eval x)).toList = [(0, .agg r.toArray)])
    (h : wpList P ops Q rest (a.put o.dst (.slice (some ⟨N, 0, none⟩) 1 1)) (w.alloc (.cells r.toArray e))) : wpList P ops Q (o :: rest) a w := by
  subst hN
  unfold wpList
  rw [if_pos hgd]
  exact .inl (wp_buildSlice t e 1 parts ho r.toArray ie z hu hie hz (by rw [hk]; omega) (by rw [hk]; omega) (by rw [hp]; exact fill_row _ _ r hk.symm (by rw [hk]; simp)) h)
end
end Go.Proofs.Ytogonbgelaehhaa
