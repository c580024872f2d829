/- Walks of the reference's Apply: errors, a request that comes again (stage 17). Written by gen/mkura.py. -/
import Derived.Test.YtloogjdojojehaaUGa
import Derived.Deep.Cut
import Derived.Test.YtloogjdojojehaaMxu
namespace Go.Proofs.Ytloogjdojojehaa
open Go.RowKit
set_option linter.unusedVariables false

/-- a state's cells, all of them -/
theorem st_cells3 {w : World} {v : Value} {s : StU RawV} (h : StTold w v s) : ∃ (S : List Value) (p : Option Addr) (c : Nat), v = .agg S.toArray ∧ S.length = 22 ∧ S.toArray.all (·.oneCell') = true ∧ S[0]? = some (.slice p s.vers.length c) ∧ VsV w (.slice p s.vers.length c) s.vers ∧
    (∀ j, j < 3 → S[1 + j]? = some (.int .u32 ((s.seqs.getD j 0 : Nat) : Int))) ∧ (∀ j, j < 3 → ∃ R : List Value, R.length = 6 ∧ R.toArray.all (·.oneCell') = true ∧ (∀ i x, R[i]? = some x → S[4 + j * 6 + i]? = some x) ∧ RepOkV w R (s.last.getD j (wrongU noV 0))) := by
  obtain ⟨vv, s0, s1, s2, r0, r1, r2, x0, x1, x2, rfl, hV, hq, hl, _, h0, h1, h2⟩ := h
  obtain ⟨p, c, rfl⟩ := hV.isSlice
  have := cellsS_one (vv := .slice p s.vers.length c) (s0 := s0) (s1 := s1) (s2 := s2) ⟨_, _, _, rfl⟩ h0 h1 h2
  refine ⟨_, p, c, rfl, this.2, this.1, rfl, hV, fun j hj => ?_, fun j hj => ?_⟩
  · rw [hq]
    have : j = 0 ∨ j = 1 ∨ j = 2 := by omega
    rcases this with rfl | rfl | rfl <;> rfl
  · rw [hl]
    have k0 := h0.row
    have k1 := h1.row
    have k2 := h2.row
    obtain ⟨_, _, _, _, _, _, _, _, e0⟩ := k0
    obtain ⟨_, _, _, _, _, _, _, _, e1⟩ := k1
    obtain ⟨_, _, _, _, _, _, _, _, e2⟩ := k2
    have : j = 0 ∨ j = 1 ∨ j = 2 := by omega
    rcases this with rfl | rfl | rfl
    · refine ⟨r0, h0.len, by rw [e0]; simp [cellsR, Value.oneCell'], fun i x hx => ?_, h0⟩
      have hi : i < 6 := by have := (List.getElem?_eq_some_iff.1 hx).1; rw [h0.len] at this; exact this
      rw [e0] at hx
      rw [e0, e1, e2]
      have : i = 0 ∨ i = 1 ∨ i = 2 ∨ i = 3 ∨ i = 4 ∨ i = 5 := by omega
      rcases this with rfl | rfl | rfl | rfl | rfl | rfl <;> exact hx
    · refine ⟨r1, h1.len, by rw [e1]; simp [cellsR, Value.oneCell'], fun i x hx => ?_, h1⟩
      have hi : i < 6 := by have := (List.getElem?_eq_some_iff.1 hx).1; rw [h1.len] at this; exact this
      rw [e1] at hx
      rw [e0, e1, e2]
      have : i = 0 ∨ i = 1 ∨ i = 2 ∨ i = 3 ∨ i = 4 ∨ i = 5 := by omega
      rcases this with rfl | rfl | rfl | rfl | rfl | rfl <;> exact hx
    · refine ⟨r2, h2.len, by rw [e2]; simp [cellsR, Value.oneCell'], fun i x hx => ?_, h2⟩
      have hi : i < 6 := by have := (List.getElem?_eq_some_iff.1 hx).1; rw [h2.len] at this; exact this
      rw [e2] at hx
      rw [e0, e1, e2]
      have : i = 0 ∨ i = 1 ∨ i = 2 ∨ i = 3 ∨ i = 4 ∨ i = 5 := by omega
      rcases this with rfl | rfl | rfl | rfl | rfl | rfl <;> exact hx
theorem rq_cells {w : World} {v : Value} {r : ReqU RawV} (h : ReqTold w v r) : ∃ Q : List Value, v = .agg Q.toArray ∧ Q.length = 8 ∧ Q.toArray.all (·.oneCell') = true ∧ Q[0]? = some (.int .i64 r.client) ∧ Q[1]? = some (.int .u32 (r.seq : Int)) ∧ OpTold w (.agg (Q.drop 2).toArray) r.kind r.id r.ver := by
  obtain ⟨q, rfl, hv⟩ := h
  have hv2 := hv
  obtain ⟨pb, cb, pn, cn, pz, cz, rfl⟩ := hv2.row
  exact ⟨_, rfl, rfl, by simp [cellsQ, cellsO, cellsV, Value.oneCell'], rfl, rfl, ⟨_, rfl, hv⟩⟩
end Go.Proofs.Ytloogjdojojehaa
namespace Go.Proofs.Ytloogjdojojehaa
open Go.RowKit
set_option linter.unusedVariables false

def apS (B c : Nat) (S R : List Value) (i : Nat) (v : Value) : Prop :=
  match i with
  | 0 => v = .agg S.toArray
  | 1 => v = .int .i64 (c : Int)
  | 2 => v = .pointer (some ⟨B, 4, none⟩)
  | 3 => v = .pointer (some ⟨B, 4 + c * 6, none⟩)
  | 4 => v = .agg R.toArray
  | _ => True
end Go.Proofs.Ytloogjdojojehaa
namespace Go.Proofs.Ytloogjdojojehaa
open Go.RowKit
set_option linter.unusedVariables false

theorem below_then {a b c : World} (k : Below b.heap.size b c) (h : Below a.heap.size a b) : Below a.heap.size a c := h.trans (k.mono h.size)
theorem OpTold.below {w w' : World} {v : Value} {kind : Int} {id : Nat} {a : RawV} (h : OpTold w v kind id a) (hb : Below w.heap.size w w') : OpTold w' v kind id a := by
  obtain ⟨q, e, h1⟩ := h
  exact ⟨q, e, h1.below hb⟩
/-- a client's number and reply are set in a state's cells -/
def updS (c : Nat) (S : List Value) (N : Nat) (X : List Value) : List Value := (S.set (1 + c) (.int .u32 (N : Int))).take (4 + c * 6) ++ (X ++ (S.set (1 + c) (.int .u32 (N : Int))).drop (4 + c * 6 + 6))
theorem st_upd {w : World} {S X : List Value} {s : StU RawV} {x : RepU RawV} {c N : Nat} (hc : c < 3) (h : StTold w (.agg S.toArray) s) (hx : RepOkV w X x) (hN : N < 4294967296) :
    StTold w (.agg (updS c S N X).toArray) ⟨s.vers, s.seqs.set c N, s.last.set c x⟩ ∧ (updS c S N X).length = 22 ∧ (updS c S N X).toArray.all (·.oneCell') = true := by
  obtain ⟨vv, s0, s1, s2, r0, r1, r2, x0, x1, x2, e, hV, hq, hl, ⟨b0, b1, b2⟩, h0, h1, h2⟩ := h
  have e' : S = cellsS vv s0 s1 s2 r0 r1 r2 := by
    have := congrArg (fun v => match v with | Value.agg c => c.toList | _ => []) e
    simpa using this
  subst e'
  obtain ⟨p, c0, rfl⟩ := hV.isSlice
  have k0 := h0.row
  have k1 := h1.row
  have k2 := h2.row
  have kx := hx.row
  obtain ⟨_, _, _, _, _, _, _, _, e0⟩ := k0
  obtain ⟨_, _, _, _, _, _, _, _, e1⟩ := k1
  obtain ⟨_, _, _, _, _, _, _, _, e2⟩ := k2
  obtain ⟨_, _, _, _, _, _, _, _, ex⟩ := kx
  have key : ∃ t0 t1 t2 q0 q1 q2 y0 y1 y2, updS c (cellsS (.slice p s.vers.length c0) s0 s1 s2 r0 r1 r2) N X = cellsS (.slice p s.vers.length c0) t0 t1 t2 q0 q1 q2 ∧ s.seqs.set c N = [t0, t1, t2] ∧ s.last.set c x = [y0, y1, y2] ∧ (t0 < 4294967296 ∧ t1 < 4294967296 ∧ t2 < 4294967296) ∧ RepOkV w q0 y0 ∧ RepOkV w q1 y1 ∧ RepOkV w q2 y2 := by
    rw [hq, hl]
    have : c = 0 ∨ c = 1 ∨ c = 2 := by omega
    rcases this with rfl | rfl | rfl
    · exact ⟨N, s1, s2, X, r1, r2, x, x1, x2, by rw [e0, e1, e2, ex]; rfl, rfl, rfl, ⟨hN, b1, b2⟩, hx, h1, h2⟩
    · exact ⟨s0, N, s2, r0, X, r2, x0, x, x2, by rw [e0, e1, e2, ex]; rfl, rfl, rfl, ⟨b0, hN, b2⟩, h0, hx, h2⟩
    · exact ⟨s0, s1, N, r0, r1, X, x0, x1, x, by rw [e0, e1, e2, ex]; rfl, rfl, rfl, ⟨b0, b1, hN⟩, h0, h1, hx⟩
  obtain ⟨t0, t1, t2, q0, q1, q2, y0, y1, y2, eu, g1, g2, g3, g4, g5, g6⟩ := key
  have := cellsS_one (vv := .slice p s.vers.length c0) (s0 := t0) (s1 := t1) (s2 := t2) ⟨_, _, _, rfl⟩ g4 g5 g6
  rw [eu]
  exact ⟨⟨_, t0, t1, t2, q0, q1, q2, y0, y1, y2, rfl, hV, g1, g2, g3, g4, g5, g6⟩, this.2, this.1⟩
def apT (U X : List Value) (i : Nat) (v : Value) : Prop :=
  match i with
  | 0 => v = .agg U.toArray
  | 1 => v = .agg X.toArray
  | _ => True
theorem upd_cut (c : Nat) (S X : List Value) (N : Nat) (hS : S.length = 22) (hc : c < 3) : S.set (1 + c) (.int .u32 (N : Int)) = (S.set (1 + c) (.int .u32 (N : Int))).take (4 + c * 6) ++ (((S.set (1 + c) (.int .u32 (N : Int))).drop (4 + c * 6)).take 6 ++ (S.set (1 + c) (.int .u32 (N : Int))).drop (4 + c * 6 + 6)) := by
  generalize 4 + c * 6 = n
  generalize S.set (1 + c) (.int .u32 (N : Int)) = L
  rw [← List.drop_drop (i := 6) (j := n), List.take_append_drop, List.take_append_drop]
end Go.Proofs.Ytloogjdojojehaa
namespace Go.Proofs.Ytloogjdojojehaa
open Go.RowKit
set_option linter.unusedVariables false

abbrev appR (s : StU RawV) (r : ReqU RawV) : StU RawV × RepU RawV := applyU RawV.id mayR noV s r
/-- what is known of a request's numbers and parts -/
def ReqOk (r : ReqU RawV) : Prop := r.id < 4294967296 ∧ r.seq < 4294967296 ∧ r.ver.ok ∧ (r.ver.bl.length ≤ 1000 ∧ r.ver.ns.length ≤ 1000 ∧ r.ver.zs.length ≤ 1000)
end Go.Proofs.Ytloogjdojojehaa
namespace Go.Proofs.Ytloogjdojojehaa
open Go.RowKit
set_option linter.unusedVariables false

/-- rows that tell these replies -/
def TellRs (w : World) (rows : List (List Value)) (l : List (RepU RawV)) : Prop := rows.length = l.length ∧ ∀ i, i < l.length → ∃ r, rows[i]? = some r ∧ RepOkV w r (l.getD i (wrongU noV 0))
theorem TellRs.below {w w' : World} {rows : List (List Value)} {l : List (RepU RawV)} (h : TellRs w rows l) (hb : Below w.heap.size w w') : TellRs w' rows l := by
  refine ⟨h.1, fun i hi => ?_⟩
  obtain ⟨r, h1, h2⟩ := h.2 i hi
  exact ⟨r, h1, h2.below hb⟩
theorem TellRs.sub {w w' : World} {rows : List (List Value)} {l : List (RepU RawV)} (h : TellRs w rows l) (hb : Sub w w') : TellRs w' rows l := by
  refine ⟨h.1, fun i hi => ?_⟩
  obtain ⟨r, h1, h2⟩ := h.2 i hi
  exact ⟨r, h1, h2.sub hb⟩
theorem TellRs.nil (w : World) : TellRs w [] [] := ⟨rfl, fun i h => by simp at h⟩
theorem TellRs.snoc {w : World} {rows : List (List Value)} {l : List (RepU RawV)} {r : List Value} {x : RepU RawV} (h : TellRs w rows l) (hx : RepOkV w r x) : TellRs w (rows ++ [r]) (l ++ [x]) := by
  refine ⟨by rw [List.length_append, List.length_append, h.1]; rfl, fun i hi => ?_⟩
  by_cases hl : i < l.length
  · obtain ⟨q, e1, e2⟩ := h.2 i hl
    refine ⟨q, by rw [List.getElem?_append_left (by rw [h.1]; exact hl)]; exact e1, ?_⟩
    rw [List.getD_eq_getElem?_getD, List.getElem?_append_left hl, ← List.getD_eq_getElem?_getD]
    exact e2
  · rw [List.length_append, List.length_singleton] at hi
    obtain rfl : i = l.length := by omega
    refine ⟨r, by rw [List.getElem?_append_right (by rw [h.1]; exact Nat.le_refl _), h.1]; simp, ?_⟩
    rw [List.getD_eq_getElem?_getD, List.getElem?_append_right (Nat.le_refl _)]
    simpa using hx
/-! ### requests as an argument -/
def noQ : ReqU RawV := ⟨0, 0, 0, 0, noV⟩
def ReqsV (w : World) (v : Value) (l : List (ReqU RawV)) : Prop := ∃ rows, Sl w 8 v rows ∧ rows.length = l.length ∧ ∀ i, i < l.length → ∃ r, rows[i]? = some r ∧ ReqTold w (.agg r.toArray) (l.getD i noQ)
theorem ReqTold.below {w w' : World} {v : Value} {r : ReqU RawV} (h : ReqTold w v r) (hb : Below w.heap.size w w') : ReqTold w' v r := by
  obtain ⟨q, e, h1⟩ := h
  exact ⟨q, e, h1.below hb⟩
theorem ReqsV.below {w w' : World} {v : Value} {l : List (ReqU RawV)} (h : ReqsV w v l) (hb : Below w.heap.size w w') : ReqsV w' v l := by
  obtain ⟨rows, h1, h2, h3⟩ := h
  refine ⟨rows, h1.below hb, h2, fun i hi => ?_⟩
  obtain ⟨r, e1, e2⟩ := h3 i hi
  exact ⟨r, e1, e2.below hb⟩
theorem ReqsV.at {w : World} {p : Option Addr} {n c : Nat} {l : List (ReqU RawV)} (h : ReqsV w (.slice p n c) l) {i : Nat} (hi : i < l.length) :
    ∃ (a : Addr) (r : List Value), p = some a ∧ a.block < w.heap.size ∧ ReqTold w (.agg r.toArray) (l.getD i noQ) ∧ r.length = 8 ∧ ∀ j x, r[j]? = some x → w.cell? ((a.add (i * 8)).add j) = some x := by
  obtain ⟨rows, h1, h0, h2⟩ := h
  obtain ⟨r, e1, e2⟩ := h2 i hi
  obtain ⟨hk, p', c', e, hc⟩ := h1
  cases e
  obtain ⟨a, q1, q2, q3⟩ := hc i r e1
  exact ⟨a, r, q1, q2, e2, hk r (List.mem_of_getElem? e1), fun j x hx => by rw [Deep.add_add]; exact q3 j x hx⟩
/-! ### all requests -/
abbrev allR (l : List (ReqU RawV)) : StU RawV × List (RepU RawV) := allU RawV.id mayR noV (stU0 noV) l
abbrev OkR (s : StU RawV) : Prop := StOk RawV.id mayR s
theorem allR_take {l : List (ReqU RawV)} {j : Nat} (h : j < l.length) : allR (l.take (j + 1)) = ((appR (allR (l.take j)).1 (l.getD j noQ)).1, (allR (l.take j)).2 ++ [(appR (allR (l.take j)).1 (l.getD j noQ)).2]) := by
  have e : l.take (j + 1) = l.take j ++ [l.getD j noQ] := by rw [List.take_succ_eq_append_getElem h, List.getD_eq_getElem?_getD, List.getElem?_eq_getElem h]; rfl
  rw [e]
  exact all_snoc RawV.id mayR noV (stU0 noV) (l.take j) (l.getD j noQ)
theorem allR_ok (l : List (ReqU RawV)) : OkR (allR l).1 := all_ok RawV.id mayR noV (st_ok0 RawV.id mayR noV) l
theorem st0_told (w : World) : StTold w (.agg zS.toArray) (stU0 noV) := ⟨.slice none 0 0, 0, 0, 0, zRp, zRp, zRp, wrongU noV 0, wrongU noV 0, wrongU noV 0, rfl, VsV.nil w, rfl, rfl, ⟨by decide, by decide, by decide⟩, rep_none w 0, rep_none w 0, rep_none w 0⟩
theorem rep_one {w : World} {r : List Value} {x : RepU RawV} (h : RepOkV w r x) : r.toArray.all (·.oneCell') = true ∧ r.length = 6 ∧ ∀ u ∈ r, u.oneCell' = true := by
  have k := h.row
  obtain ⟨_, _, _, _, _, _, _, _, e⟩ := k
  refine ⟨by rw [e]; simp [cellsR, Value.oneCell'], h.len, fun u hu => ?_⟩
  rw [e] at hu
  simp [cellsR] at hu
  rcases hu with rfl | rfl | rfl | rfl | rfl | rfl <;> rfl
theorem zS_one : zS.toArray.all (·.oneCell') = true := by simp [zS, cellsS, zRp, cellsR, Value.oneCell']
theorem info_repV : (Try.prog.info? 32).map (fun i => (i.zero, i.size, i.bytes)) = some (some (.agg zRp.toArray), 6, 112) := by kernel_rfl
end Go.Proofs.Ytloogjdojojehaa
