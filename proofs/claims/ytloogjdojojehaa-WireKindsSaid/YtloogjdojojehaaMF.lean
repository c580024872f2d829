/- Replies and messages as arguments (stage 18). Written by gen/mkop.py. -/
import Derived.Test.YtloogjdojojehaaMD
import Derived.Test.YtloogjdojojehaaUGd
import Derived.Test.YtloogjdojojehaaG2
import Derived.Test.YtloogjdojojehaaME
import Derived.Test.YtloogjdojojehaaMG
namespace Go.Proofs.Ytloogjdojojehaa
open Go.RowKit Go.ChangeShapes Go.WideShapes
set_option linter.unusedVariables false

def RepIn (x : RepI) : Prop := (Lit.int .i64 x.err).wf = true ∧ x.ids.length ≤ maxLen ∧ (∀ n ∈ x.ids, n < 4294967296) ∧ VerIn x.ver
structure MsgIn (m : MsgU) : Prop where
  vl : m.view < 4294967296 ∧ m.last < 4294967296 ∧ m.seq < 4294967296
  ints : ((Lit.int .i64 m.kind).wf = true ∧ (Lit.int .i64 m.src).wf = true ∧ (Lit.int .i64 m.dst).wf = true) ∧ (Lit.int .i64 m.n).wf = true ∧ (Lit.int .i64 m.commit).wf = true ∧ (Lit.int .i64 m.client).wf = true
  log : ∀ r ∈ m.log, ReqIn r
  ll : m.log.length ≤ maxLen
  rep : RepIn m.rep
  bs : m.block.size ≤ maxLen
theorem wf_u32K (q : Int) (h : (Lit.int .u32 q).wf = true) : 0 ≤ q ∧ q < ((4294967296 : Nat) : Int) := by
  have : (IntKind.u32.min ≤ q) ∧ (q ≤ IntKind.u32.max) := by simpa [Lit.wf] using h
  have e1 : IntKind.u32.min = 0 := by decide
  have e2 : IntKind.u32.max = 4294967295 := by decide
  omega
theorem thirteen_of {α : Type} {l : List α} (h : l.length = 13) : ∃ a b c d e f g i j k m n p, l = [a, b, c, d, e, f, g, i, j, k, m, n, p] := by
  match l, h with
  | [a, b, c, d, e, f, g, i, j, k, m, n, p], _ => exact ⟨a, b, c, d, e, f, g, i, j, k, m, n, p, rfl⟩
theorem ten_more {α : Type} {l : List α} {n : Nat} (h : l.length = n + 10) : ∃ a b c d e f g i j k q, l = a :: b :: c :: d :: e :: f :: g :: i :: j :: k :: q ∧ q.length = n := by
  match l, h with
  | a :: b :: c :: d :: e :: f :: g :: i :: j :: k :: q, h => exact ⟨a, b, c, d, e, f, g, i, j, k, q, rfl, by simpa using h⟩
section
variable {H : Type} {enc : TypeId × Value → H} {w : World} {base : Nat} {spare : Nat → Bool} {held : Bool}
theorem open_u32s {p0 : Option Addr} {len cap : Nat} {d : DataW H} {p : List MemPlace} (h : DataW.Trod enc Try.prog w base spare held 25 (.slice p0 len cap) d p) :
    ∃ l : List Nat, l.length = len ∧ Sl w 1 (.slice p0 len cap) (rowsU .u32 l) ∧ (∀ q ∈ l, q < 4294967296) ∧ len ≤ maxLen := by
  obtain ⟨l, h1, h2, h3, h4⟩ := open_nums Try.underlying25 Try.underlying22 (by kernel_rfl) h
  obtain ⟨m, q1, q2, q3⟩ := nat_nums wf_u32K l h3
  exact ⟨m, q1.trans h1, by rw [← q2]; exact h2, q3, by omega⟩
set_option maxRecDepth 100000 in
theorem open_repC {n : Nat} {cs : List Value} {x : DataW H × List MemPlace} (h : DataW.trod enc Try.prog w base spare held n 32 cs = some x) : ∃ r : RepI, RepIV w cs r ∧ RepIn r := by
  obtain ⟨xs, m, _, _, hl, hx, hf⟩ := DataW.trod_struct Try.underlying32 h
  have hC : Try.prog.cellsOf 32 = 6 := by kernel_rfl
  obtain ⟨v0, v1, q, rfl, hq⟩ := two_more (n := 4) (hl.trans hC)
  obtain ⟨y0, y1, y2, rfl⟩ := three_of hx
  have c1 : Try.prog.cellsOf 24 = 1 := by kernel_rfl
  have c2 : Try.prog.cellsOf 25 = 1 := by kernel_rfl
  have c3 : Try.prog.cellsOf 30 = 4 := by kernel_rfl
  have h0 : DataW.trod enc Try.prog w base spare held m 24 [v0] = some y0 := by
    have g : DataW.trod enc Try.prog w base spare held m 24 (((v0 :: v1 :: q).drop 0).take (Try.prog.cellsOf 24)) = some y0 := hf 0 _ rfl
    rw [c1] at g
    exact g
  have h1 : DataW.trod enc Try.prog w base spare held m 25 [v1] = some y1 := by
    have g : DataW.trod enc Try.prog w base spare held m 25 (((v0 :: v1 :: q).drop 1).take (Try.prog.cellsOf 25)) = some y1 := hf 1 _ rfl
    rw [c2] at g
    exact g
  have h2 : DataW.trod enc Try.prog w base spare held m 30 q = some y2 := by
    have g : DataW.trod enc Try.prog w base spare held m 30 ((q).take (Try.prog.cellsOf 30)) = some y2 := hf 2 _ rfl
    rw [c3] at g
    rwa [List.take_of_length_le (by omega)] at g
  obtain ⟨k, e0, _, w0⟩ := DataW.trod_int Try.underlying24 h0
  obtain ⟨p1, n1, q1', rfl⟩ := slice_shape Try.underlying25 h1
  obtain ⟨ids, rfl, s1, b1, m1⟩ := open_u32s (d := y1.1) (p := y1.2) ⟨m, h1⟩
  obtain ⟨v, hv, hin⟩ := open_verC h2
  obtain rfl : v0 = .int .i64 k := by simpa using e0
  exact ⟨⟨k, ids, v⟩, ⟨_, q, rfl, ⟨_, _, rfl⟩, s1, hv⟩, w0, m1, b1, hin⟩
set_option maxRecDepth 100000 in
set_option maxHeartbeats 2000000 in
theorem open_msgC {n : Nat} {cs : List Value} {x : DataW H × List MemPlace} (h : DataW.trod enc Try.prog w base spare held n 36 cs = some x) : ∃ r : MsgU, MsgTold w (.agg cs.toArray) r ∧ MsgIn r := by
  obtain ⟨xs, m, _, _, hl, hx, hf⟩ := DataW.trod_struct Try.underlying36 h
  have hC : Try.prog.cellsOf 36 = 49 := by kernel_rfl
  obtain ⟨v0, v1, v2, v3, v4, v5, v6, v7, v8, v9, q, rfl, hq⟩ := ten_more (n := 39) (hl.trans hC)
  obtain ⟨y0, y1, y2, y3, y4, y5, y6, y7, y8, y9, y10, y11, y12, rfl⟩ := thirteen_of hx
  have c1 : Try.prog.cellsOf 3 = 1 := by kernel_rfl
  have c2 : Try.prog.cellsOf 22 = 1 := by kernel_rfl
  have c3 : Try.prog.cellsOf 23 = 1 := by kernel_rfl
  have c4 : Try.prog.cellsOf 32 = 6 := by kernel_rfl
  have c5 : Try.prog.cellsOf 34 = 32 := by kernel_rfl
  have c6 : Try.prog.cellsOf 9 = 1 := by kernel_rfl
  have h0 : DataW.trod enc Try.prog w base spare held m 3 [v0] = some y0 := by
    have g : DataW.trod enc Try.prog w base spare held m 3 (((v0 :: v1 :: v2 :: v3 :: v4 :: v5 :: v6 :: v7 :: v8 :: v9 :: q).drop 0).take (Try.prog.cellsOf 3)) = some y0 := hf 0 _ rfl
    rw [c1] at g
    exact g
  have h1 : DataW.trod enc Try.prog w base spare held m 3 [v1] = some y1 := by
    have g : DataW.trod enc Try.prog w base spare held m 3 (((v0 :: v1 :: v2 :: v3 :: v4 :: v5 :: v6 :: v7 :: v8 :: v9 :: q).drop 1).take (Try.prog.cellsOf 3)) = some y1 := hf 1 _ rfl
    rw [c1] at g
    exact g
  have h2 : DataW.trod enc Try.prog w base spare held m 3 [v2] = some y2 := by
    have g : DataW.trod enc Try.prog w base spare held m 3 (((v0 :: v1 :: v2 :: v3 :: v4 :: v5 :: v6 :: v7 :: v8 :: v9 :: q).drop 2).take (Try.prog.cellsOf 3)) = some y2 := hf 2 _ rfl
    rw [c1] at g
    exact g
  have h3 : DataW.trod enc Try.prog w base spare held m 22 [v3] = some y3 := by
    have g : DataW.trod enc Try.prog w base spare held m 22 (((v0 :: v1 :: v2 :: v3 :: v4 :: v5 :: v6 :: v7 :: v8 :: v9 :: q).drop 3).take (Try.prog.cellsOf 22)) = some y3 := hf 3 _ rfl
    rw [c2] at g
    exact g
  have h4 : DataW.trod enc Try.prog w base spare held m 22 [v4] = some y4 := by
    have g : DataW.trod enc Try.prog w base spare held m 22 (((v0 :: v1 :: v2 :: v3 :: v4 :: v5 :: v6 :: v7 :: v8 :: v9 :: q).drop 4).take (Try.prog.cellsOf 22)) = some y4 := hf 4 _ rfl
    rw [c2] at g
    exact g
  have h5 : DataW.trod enc Try.prog w base spare held m 3 [v5] = some y5 := by
    have g : DataW.trod enc Try.prog w base spare held m 3 (((v0 :: v1 :: v2 :: v3 :: v4 :: v5 :: v6 :: v7 :: v8 :: v9 :: q).drop 5).take (Try.prog.cellsOf 3)) = some y5 := hf 5 _ rfl
    rw [c1] at g
    exact g
  have h6 : DataW.trod enc Try.prog w base spare held m 3 [v6] = some y6 := by
    have g : DataW.trod enc Try.prog w base spare held m 3 (((v0 :: v1 :: v2 :: v3 :: v4 :: v5 :: v6 :: v7 :: v8 :: v9 :: q).drop 6).take (Try.prog.cellsOf 3)) = some y6 := hf 6 _ rfl
    rw [c1] at g
    exact g
  have h7 : DataW.trod enc Try.prog w base spare held m 23 [v7] = some y7 := by
    have g : DataW.trod enc Try.prog w base spare held m 23 (((v0 :: v1 :: v2 :: v3 :: v4 :: v5 :: v6 :: v7 :: v8 :: v9 :: q).drop 7).take (Try.prog.cellsOf 23)) = some y7 := hf 7 _ rfl
    rw [c3] at g
    exact g
  have h8 : DataW.trod enc Try.prog w base spare held m 3 [v8] = some y8 := by
    have g : DataW.trod enc Try.prog w base spare held m 3 (((v0 :: v1 :: v2 :: v3 :: v4 :: v5 :: v6 :: v7 :: v8 :: v9 :: q).drop 8).take (Try.prog.cellsOf 3)) = some y8 := hf 8 _ rfl
    rw [c1] at g
    exact g
  have h9 : DataW.trod enc Try.prog w base spare held m 22 [v9] = some y9 := by
    have g : DataW.trod enc Try.prog w base spare held m 22 (((v0 :: v1 :: v2 :: v3 :: v4 :: v5 :: v6 :: v7 :: v8 :: v9 :: q).drop 9).take (Try.prog.cellsOf 22)) = some y9 := hf 9 _ rfl
    rw [c2] at g
    exact g
  have h10 : DataW.trod enc Try.prog w base spare held m 32 (q.take 6) = some y10 := by
    have g : DataW.trod enc Try.prog w base spare held m 32 ((q).take (Try.prog.cellsOf 32)) = some y10 := hf 10 _ rfl
    rw [c4] at g
    exact g
  have h11 : DataW.trod enc Try.prog w base spare held m 34 ((q.drop 6).take 32) = some y11 := by
    have g : DataW.trod enc Try.prog w base spare held m 34 ((q.drop 6).take (Try.prog.cellsOf 34)) = some y11 := hf 11 _ rfl
    rw [c5] at g
    exact g
  have h12 : DataW.trod enc Try.prog w base spare held m 9 ((q.drop 38).take 1) = some y12 := by
    have g : DataW.trod enc Try.prog w base spare held m 9 ((q.drop 38).take (Try.prog.cellsOf 9)) = some y12 := hf 12 _ rfl
    rw [c6] at g
    exact g
  obtain ⟨k0, e0, _, z0⟩ := DataW.trod_int Try.underlying3 h0
  obtain rfl : v0 = .int .i64 k0 := by simpa using e0
  obtain ⟨k1, e1, _, z1⟩ := DataW.trod_int Try.underlying3 h1
  obtain rfl : v1 = .int .i64 k1 := by simpa using e1
  obtain ⟨k2, e2, _, z2⟩ := DataW.trod_int Try.underlying3 h2
  obtain rfl : v2 = .int .i64 k2 := by simpa using e2
  obtain ⟨k5, e5, _, z5⟩ := DataW.trod_int Try.underlying3 h5
  obtain rfl : v5 = .int .i64 k5 := by simpa using e5
  obtain ⟨k6, e6, _, z6⟩ := DataW.trod_int Try.underlying3 h6
  obtain rfl : v6 = .int .i64 k6 := by simpa using e6
  obtain ⟨k8, e8, _, z8⟩ := DataW.trod_int Try.underlying3 h8
  obtain rfl : v8 = .int .i64 k8 := by simpa using e8
  obtain ⟨k3, e3, _, z3⟩ := DataW.trod_int Try.underlying22 h3
  obtain ⟨k3, rfl, t3⟩ := nat_u32 k3 z3
  obtain rfl : v3 = .int .u32 (k3 : Int) := by simpa using e3
  obtain ⟨k4, e4, _, z4⟩ := DataW.trod_int Try.underlying22 h4
  obtain ⟨k4, rfl, t4⟩ := nat_u32 k4 z4
  obtain rfl : v4 = .int .u32 (k4 : Int) := by simpa using e4
  obtain ⟨k9, e9, _, z9⟩ := DataW.trod_int Try.underlying22 h9
  obtain ⟨k9, rfl, t9⟩ := nat_u32 k9 z9
  obtain rfl : v9 = .int .u32 (k9 : Int) := by simpa using e9
  obtain ⟨p7, n7, q7, rfl⟩ := slice_shape Try.underlying23 h7
  obtain ⟨l, rfl, s7, b7, m7, _⟩ := open_reqs (d := y7.1) (p := y7.2) ⟨m, h7⟩
  obtain ⟨r, hr, hrin⟩ := open_repC h10
  obtain ⟨hh, e11, hh32, hhb⟩ := open_bys (v := .agg ((q.drop 6).take 32).toArray) Try.underlying34 Try.underlying5 cells_u8 c5 _ rfl ⟨m, by simpa [Value.cells] using h11⟩
  obtain ⟨bl, e12, _, hbz⟩ := DataW.trod_string Try.underlying9 h12
  obtain ⟨vi, qv, hrp, hi, hs, hvv⟩ := hr
  have e11' : (q.drop 6).take 32 = ints .u8 (nn hh) := by
    have := congrArg (fun v => match v with | Value.agg c => c.toList | _ => []) e11
    simpa using this
  have eq1 : q = q.take 6 ++ ((q.drop 6).take 32 ++ (q.drop 38).take 1) := by
    have h1 : (q.drop 6).drop 32 = q.drop 38 := by rw [List.drop_drop]
    have h2 : (q.drop 38).take 1 = q.drop 38 := List.take_of_length_le (by rw [List.length_drop]; omega)
    rw [h2, ← h1, List.take_append_drop, List.take_append_drop]
  rw [hrp, e11', e12] at eq1
  subst eq1
  exact ⟨⟨k0, k1, k2, k3, k4, k5, k6, l, k8, k9, r.err, r.ids, r.ver, hh, bl⟩, ⟨_, vi, qv, rfl, ⟨_, _, rfl⟩, s7, hi, hs, hvv, hh32, hhb⟩, ⟨⟨t3, t4, t9⟩, ⟨⟨z0, z1, z2⟩, z5, z6, z8⟩, b7, m7, hrin, hbz⟩⟩
set_option maxRecDepth 100000 in
theorem open_msg {b0 : Nat} {v : Value} {d : DataW H} {p : List MemPlace} (hv : Value.okWide Try.prog w .any b0 36 v) (h : DataW.Trod enc Try.prog w base spare held 36 v d p) : ∃ r : MsgU, MsgTold w v r ∧ MsgIn r := by
  obtain ⟨cs, rfl, _⟩ : ∃ cs, v = .agg cs ∧ True := by
    have := hv
    simp [Value.okWide, Try.underlying36] at this
    obtain ⟨cs, h, _⟩ := this
    exact ⟨cs, h, trivial⟩
  obtain ⟨m, hm⟩ := h
  obtain ⟨r, h1, h2⟩ := open_msgC (cs := cs.toList) (by simpa [Value.cells] using hm)
  exact ⟨r, by simpa using h1, h2⟩
end
end Go.Proofs.Ytloogjdojojehaa
namespace Go.Proofs.Ytloogjdojojehaa
open Go.RowKit
set_option linter.unusedVariables false

set_option maxRecDepth 100000 in
set_option maxHeartbeats 2000000 in
theorem l18_much (a : RawV) (v : Value) (b : Bool) (w : World) (hb : muchV a = b) (hV : VV w v a) :
    Calls Try.prog 7 #[v] w fun e w' => e = .returned (.bool b) ∧ Below w.heap.size w w' := by
  obtain ⟨v1, v2, v3, rfl, ⟨pb, cb, rfl⟩, ⟨pn, cn, rfl⟩, ⟨pz, cz, rfl⟩, sb, sn, sz⟩ := hV
  obtain ⟨ia, la, na, za⟩ := a
  dsimp only at *
  obtain ⟨B, hBB⟩ : ∃ B, w.heap.size = B := ⟨_, rfl⟩
  have k0 := Blk.newAt w B hBB 30 (c := (cellsV ia (.slice pb la.length cb) (.slice pn na.length cn) (.slice pz za.length cz)).toArray) _ rfl
  have c1 : (w.alloc (.cells (cellsV ia (.slice pb la.length cb) (.slice pn na.length cn) (.slice pz za.length cz)).toArray 30)).cell? ⟨B, 1, none⟩ = some (.slice pb la.length cb) := by rw [k0.cell]; rfl
  have c2 : (w.alloc (.cells (cellsV ia (.slice pb la.length cb) (.slice pn na.length cn) (.slice pz za.length cz)).toArray 30)).cell? ⟨B, 2, none⟩ = some (.slice pn na.length cn) := by rw [k0.cell]; rfl
  have c3 : (w.alloc (.cells (cellsV ia (.slice pb la.length cb) (.slice pn na.length cn) (.slice pz za.length cz)).toArray 30)).cell? ⟨B, 3, none⟩ = some (.slice pz za.length cz) := by rw [k0.cell]; rfl
  have KB := Lib.hid ((Below.refl w.heap.size w).alloc (Nat.le_refl _) (.cells (cellsV ia (.slice pb la.length cb) (.slice pn na.length cn) (.slice pz za.length cz)).toArray 30))
  have K0 := Lib.hid k0
  have HB := Lib.hid hb
  have SN := Lib.hid sn
  clear k0 sb sn sz hb
  by_cases g1 : 40 < la.length
  · have HN := Lib.hid (muchV_yes HB.out (.inl g1))
    have d1 : (40 : Int) < (la.length : Int) := by omega
    clear g1
    go_enter Try.func7, Try.ntmps7
    go_wp2
    go_ret
    exact ⟨congrArg (fun x => Ending.returned (.bool x)) HN.out, by first | exact KB.out | (have h := KB.out; rw [hBB] at h; exact h)⟩
  have d1 : ¬ (40 : Int) < (la.length : Int) := by omega
  by_cases g2 : 40 < na.length
  · have HN := Lib.hid (muchV_yes HB.out (.inr (.inl g2)))
    have d2 : (40 : Int) < (na.length : Int) := by omega
    clear g1 g2
    go_enter Try.func7, Try.ntmps7
    go_wp2
    go_ret
    exact ⟨congrArg (fun x => Ending.returned (.bool x)) HN.out, by first | exact KB.out | (have h := KB.out; rw [hBB] at h; exact h)⟩
  have d2 : ¬ (40 : Int) < (na.length : Int) := by omega
  by_cases g3 : 40 < za.length
  · have HN := Lib.hid (muchV_yes HB.out (.inr (.inr (.inl g3))))
    have d3 : (40 : Int) < (za.length : Int) := by omega
    clear g1 g2 g3
    go_enter Try.func7, Try.ntmps7
    go_wp2
    go_ret
    exact ⟨congrArg (fun x => Ending.returned (.bool x)) HN.out, by first | exact KB.out | (have h := KB.out; rw [hBB] at h; exact h)⟩
  have d3 : ¬ (40 : Int) < (za.length : Int) := by omega
  have G := Lib.hid (show la.length ≤ 40 ∧ na.length ≤ 40 ∧ za.length ≤ 40 by omega)
  clear g1 g2 g3
  go_enter Try.func7, Try.ntmps7
  go_wp2
  clear c1 c2 c3 d1 d2 d3
  go_loopw [3] (fun i wr => ∃ j : Nat, j ≤ na.length ∧ i = .int .i64 (j : Int) ∧ (∀ k, k < j → (na.getD k []).length ≤ 100) ∧ Blk wr B 30 (cellsV ia (.slice pb la.length cb) (.slice pn na.length cn) (.slice pz za.length cz)) ∧ Below w.heap.size w wr) (fun i _ => na.length - (intOf i).toNat)
  case atStart => exact ⟨0, by omega, rfl, (fun k h => by omega), K0.out, KB.out⟩
  case round =>
    obtain ⟨j, hj, rfl, hf, b0, gb⟩ := hrel
    clear K0 KB
    have HF := Lib.hid hf
    have x2 := b0.cell 2
    simp only [cellsV, List.getElem?_cons_zero, List.getElem?_cons_succ] at x2
    have B0 := Lib.hid b0
    clear hf b0
    by_cases hlt : j < na.length
    · have q40 : na.length ≤ 40 := G.out.2.1
      obtain ⟨an, rfl, y1⟩ := SlS.cell (SN.out.below gb) hlt
      have dj : (j : Int) < (na.length : Int) := by omega
      have hz := tx_size (na.getD j [])
      by_cases hn : 100 < (na.getD j []).length
      · have HN := Lib.hid (muchV_yes HB.out (.inr (.inr (.inr ⟨_, getN_mem hlt, hn⟩))))
        have d4 : (100 : Int) < ((tx (na.getD j [])).size : Int) := by omega
        clear hz hn
        generalize tx (na.getD j []) = X at *
        go_wp2
        go_ret
        exact ⟨congrArg (fun x => Ending.returned (.bool x)) HN.out, gb⟩
      · have HN := Lib.hid hn
        have d4 : ¬ (100 : Int) < ((tx (na.getD j [])).size : Int) := by omega
        clear hz hn
        generalize tx (na.getD j []) = X at *
        go_wp2
        go_roundw
        case rel => exact ⟨j + 1, by omega, by go_num, (fun k hk => by
          rcases Nat.lt_or_ge k j with h | h
          · exact HF.out k h
          · obtain rfl : k = j := by omega
            exact Nat.le_of_not_lt HN.out), B0.out, gb⟩
        case measure => (simp [intOf]; have := G.out.2.1; omega)
    · obtain rfl : j = na.length := by omega
      have HN : Hid (false = b) := Lib.hid (by
        rw [← HB.out]
        refine (muchV_no.2 ⟨G.out.1, G.out.2.1, G.out.2.2, fun x hx => ?_⟩).symm
        obtain ⟨k, hk, rfl⟩ := List.getElem_of_mem hx
        have := HF.out k hk
        rwa [List.getD_eq_getElem?_getD, List.getElem?_eq_getElem hk] at this)
      go_wp2
      go_ret
      exact ⟨congrArg (fun x => Ending.returned (.bool x)) HN.out, gb⟩
def heavyM (m : MsgU) : Bool := decide (60 < m.log.length) || (decide (40 < m.ids.length) || (muchV m.ver || (decide (1200 < m.block.size) || m.log.any fun r => muchV r.ver)))
theorem heavyM_no {m : MsgU} : heavyM m = false ↔ m.log.length ≤ 60 ∧ m.ids.length ≤ 40 ∧ muchV m.ver = false ∧ m.block.size ≤ 1200 ∧ ∀ r ∈ m.log, muchV r.ver = false := by
  unfold heavyM
  simp only [Bool.or_eq_false_iff, decide_eq_false_iff_not, List.any_eq_false, Nat.not_lt, Bool.not_eq_true]
theorem heavyM_yes {m : MsgU} {b : Bool} (hb : heavyM m = b) (h : 60 < m.log.length ∨ 40 < m.ids.length ∨ muchV m.ver = true ∨ 1200 < m.block.size ∨ ∃ r ∈ m.log, muchV r.ver = true) : true = b := by
  cases b with
  | true => rfl
  | false =>
    obtain ⟨h1, h2, h3, h4, h5⟩ := heavyM_no.1 hb
    rcases h with h | h | h | h | ⟨r, hr, h⟩
    · omega
    · omega
    · rw [h3] at h; cases h
    · omega
    · rw [h5 r hr] at h; cases h
set_option maxRecDepth 100000 in
set_option maxHeartbeats 4000000 in
theorem l18_heavy (m : MsgU) (v : Value) (b : Bool) (w : World) (hb : heavyM m = b) (hv : MsgTold w v m) :
    Calls Try.prog 6 #[v] w fun e w' => e = .returned (.bool b) ∧ Below w.heap.size w w' := by
  obtain ⟨pl, cl, rp, rfl, hl, hr, h32, hby⟩ := msg_split hv
  have hr6 := hr.row.1
  obtain ⟨pi, ci, hr1⟩ := hr.row.2.1
  have hvv := hr.row.2.2.2
  have hh : (ints .u8 (nn m.hash)).length = 32 := by rw [ints_length, nn_length, h32]
  obtain ⟨n, hn⟩ : ∃ n, m.log.length = n := ⟨_, rfl⟩
  obtain ⟨n2, hn2⟩ : ∃ n2, m.ids.length = n2 := ⟨_, rfl⟩
  obtain ⟨bz, hbz⟩ : ∃ bz, m.block = bz := ⟨_, rfl⟩
  obtain ⟨R, hR⟩ : ∃ R, mC m.kind m.src m.dst m.view m.last m.n m.commit (.slice pl m.log.length cl) m.client m.seq rp (ints .u8 (nn m.hash)) m.block = R := ⟨_, rfl⟩
  have k0 := Blk.new' w 36 (c := R.toArray) R rfl
  have kb := (Below.refl w.heap.size w).alloc (Nat.le_refl _) (.cells R.toArray 36)
  rw [hR]
  have HC7 : Hid (∀ wx, Blk wx w.heap.size 36 R → wx.cell? ⟨w.heap.size, 7, none⟩ = some (.slice pl n cl)) := Lib.hid fun wx hk => by rw [← hR, hn] at hk; exact hk.cellOf rfl
  have HC : Hid (∀ wx, Blk wx w.heap.size 36 R → wx.cell? ⟨w.heap.size, 11, none⟩ = some (.slice pi n2 ci) ∧ (∀ i x, (rp.drop 2)[i]? = some x → wx.cell? ((⟨w.heap.size, 12, none⟩ : Addr).add i) = some x) ∧ wx.cell? ⟨w.heap.size, 48, none⟩ = some (.string bz)) := Lib.hid fun wx hk => by
    rw [← hR] at hk
    have hp := mC_rep hk
    refine ⟨?_, fun i x hx => ?_, ?_⟩
    · have := hp 1 _ hr1
      rw [Addr.add_mid] at this
      rw [← hn2]
      exact this
    · rw [List.getElem?_drop] at hx
      have := hp (2 + i) x hx
      rw [Addr.add_mid] at this ⊢
      rw [show 12 + i = 10 + (2 + i) by omega]
      exact this
    · rw [← hbz]
      exact hk.cellOf (mC_last _ _ _ _ _ _ _ _ _ _ _ ⟨#[]⟩ hr6 hh).1
  have HMV := Lib.hid (fun (bb : Bool) (h : muchV m.ver = bb) => l18_much m.ver (.agg (rp.drop 2).toArray) bb _ h (hvv.below kb))
  have HB := Lib.hid hb
  have HQ := Lib.hid hl
  have HLN := Lib.hid hn
  have HN2 := Lib.hid hn2
  have HBZ := Lib.hid hbz
  have HK := Lib.hid k0
  have KB := Lib.hid kb
  have HD4 : Hid ((rp.drop 2).length = 4) := Lib.hid (by rw [List.length_drop, hr6])
  have c7 := HC7.out _ k0
  obtain ⟨c11, cV, c48⟩ := HC.out _ k0
  have HCV := Lib.hid cV
  clear hb hl hr h32 hby hr6 hr1 hvv hh hn hn2 hbz hR k0 kb hv cV
  by_cases g1 : 60 < n
  · have HN := Lib.hid (heavyM_yes HB.out (.inl (by rw [HLN.out]; exact g1)))
    have d1 : (60 : Int) < (n : Int) := by omega
    clear g1
    go_enter Try.func6, Try.ntmps6
    go_wp2_with (first | (go_skip) | fail)
    go_ret
    exact ⟨congrArg (fun x => Ending.returned (.bool x)) HN.out, KB.out⟩
  have d1 : ¬ (60 : Int) < (n : Int) := by omega
  have G := Lib.hid (show n ≤ 60 by omega)
  clear g1
  by_cases g2 : 40 < n2
  · have HN := Lib.hid (heavyM_yes HB.out (.inr (.inl (by rw [HN2.out]; exact g2))))
    have d2 : (40 : Int) < (n2 : Int) := by omega
    clear g2
    go_enter Try.func6, Try.ntmps6
    go_wp2_with (first | (go_skip) | fail)
    go_ret
    exact ⟨congrArg (fun x => Ending.returned (.bool x)) HN.out, KB.out⟩
  have d2 : ¬ (40 : Int) < (n2 : Int) := by omega
  have G2 := Lib.hid (show n2 ≤ 40 by omega)
  clear g2
  go_enter Try.func6, Try.ntmps6
  go_wp2_with (first | (go_skip) | (refine wpList_load_addrV rfl 30 _ rfl ⟨w.heap.size, 12, none⟩ rfl (rp.drop 2) HCV.out Try.underlying30 rfl (by rw [size_ver, HD4.out]) ?_))
  cases hm : muchV m.ver with
  | true =>
    have HN := Lib.hid (heavyM_yes HB.out (.inr (.inr (.inl hm))))
    have HM := Lib.hid (HMV.out true hm)
    clear hm
    refine HM.out.mono ?_
    rintro e w2 ⟨rfl, b2⟩
    have B2 := Lib.hid (KB.out.trans (b2.mono KB.out.size))
    clear b2
    go_wp2_with (first | (go_skip) | fail)
    go_ret
    exact ⟨congrArg (fun x => Ending.returned (.bool x)) HN.out, B2.out⟩
  | false =>
    have HM := Lib.hid (HMV.out false hm)
    have HMF := Lib.hid hm
    clear hm
    refine HM.out.mono ?_
    rintro e w2 ⟨rfl, b2⟩
    have B2 := Lib.hid (KB.out.trans (b2.mono KB.out.size))
    have HKW := Lib.hid (HK.out.below b2 HK.out.lt)
    have c7 := HC7.out _ HKW.out
    obtain ⟨-, -, c48⟩ := HC.out _ HKW.out
    clear b2 HM
    by_cases g3 : 1200 < bz.size
    · have HN := Lib.hid (heavyM_yes HB.out (.inr (.inr (.inr (.inl (by rw [HBZ.out]; exact g3))))))
      have d3 : (1200 : Int) < (bz.size : Int) := by omega
      clear g3
      go_wp2_with (first | (go_skip) | fail)
      go_ret
      exact ⟨congrArg (fun x => Ending.returned (.bool x)) HN.out, B2.out⟩
    have d3 : ¬ (1200 : Int) < (bz.size : Int) := by omega
    have G3 := Lib.hid (show bz.size ≤ 1200 by omega)
    clear g3
    go_wp2_with (first | (go_skip) | fail)
    clear d1 d2 d3 c7 c11 c48
    go_loopw [3] (fun i wr => ∃ j : Nat, j ≤ n ∧ i = .int .i64 (j : Int) ∧ (∀ k, k < j → muchV (m.log.getD k noQ).ver = false) ∧ Below w.heap.size w wr ∧ Blk wr w.heap.size 36 R) (fun i _ => n - (intOf i).toNat)
    case atStart => exact ⟨0, by omega, rfl, (fun k h => by omega), B2.out, HKW.out⟩
    case round =>
      obtain ⟨j, hj, rfl, hf, gb, hkr⟩ := hrel
      have HF := Lib.hid hf
      have GB := Lib.hid gb
      have HKR := Lib.hid hkr
      have c7 := HC7.out _ hkr
      clear hf gb hkr
      by_cases hlt : j < n
      · have q60 : n ≤ 60 := G.out
        obtain ⟨ad, row, rfl, hadl, ⟨q, hrow, hv⟩, hrl, hcel⟩ := (HQ.out.below GB.out).at (by rw [HLN.out]; exact hlt)
        have hrow2 : row = cellsQ (m.log.getD j noQ).client (m.log.getD j noQ).seq (cellsO (m.log.getD j noQ).kind (m.log.getD j noQ).id q) := by
          have := congrArg (fun v => match v with | Value.agg c => c.toList | _ => []) hrow
          simpa using this
        have hql := hv.len
        have hsp : (ad.add (j * 8)).spot = none := by
          have := hcel 0 (.int .i64 (m.log.getD j noQ).client) (by rw [hrow2]; rfl)
          exact World.cell?_spot this
        have hqc : ∀ m x, q[m]? = some x → wr.cell? ((⟨(ad.add (j * 8)).block, (ad.add (j * 8)).off + 2 + 2, none⟩ : Addr).add m) = some x := fun m x hx => by
          have := hcel (4 + m) x (by rw [hrow2, Nat.add_comm]; exact hx)
          rw [addr_field hsp] at this
          rw [Addr.add_mid, ← this]
          congr 2
          omega
        have HMU := Lib.hid (fun b hb => l18_much (m.log.getD j noQ).ver (.agg q.toArray) b wr hb hv)
        have HQC := Lib.hid hqc
        have HQL := Lib.hid hql
        have dj : (j : Int) < (n : Int) := by omega
        clear hrow hv hrl hcel hrow2 hql hqc hadl hsp
        go_wp2_with (refine wpList_load_addr rfl 30 _ rfl ⟨(ad.add (j * 8)).block, (ad.add (j * 8)).off + 2 + 2, none⟩ rfl q HQC.out Try.underlying30 rfl (by rw [size_ver, HQL.out]) ?_)
        cases hm : muchV (m.log.getD j noQ).ver with
        | true =>
          have HN := Lib.hid (heavyM_yes HB.out (.inr (.inr (.inr (.inr ⟨_, req_mem (by rw [HLN.out]; exact hlt), hm⟩)))))
          have HM := Lib.hid (HMU.out true hm)
          clear hm
          (with_reducible refine HM.out.mono ?_)
          rintro e w2 ⟨rfl, hb2⟩
          have HB2 := Lib.hid (GB.out.trans (hb2.mono GB.out.size))
          clear hb2 c7
          go_wp2
          go_ret
          exact ⟨congrArg (fun x => Ending.returned (.bool x)) HN.out, HB2.out⟩
        | false =>
          have HN := Lib.hid hm
          have HM := Lib.hid (HMU.out false hm)
          clear hm
          (with_reducible refine HM.out.mono ?_)
          rintro e w2 ⟨rfl, hb2⟩
          have HB2 := Lib.hid (GB.out.trans (hb2.mono GB.out.size))
          have HKN := Lib.hid (HKR.out.below hb2 HKR.out.lt)
          clear hb2 c7
          go_wp2
          go_roundw
          case rel => exact ⟨j + 1, by omega, by go_num, (fun k hk => by
            rcases Nat.lt_or_ge k j with h | h
            · exact HF.out k h
            · obtain rfl : k = j := by omega
              exact HN.out), HB2.out, HKN.out⟩
          case measure => (simp [intOf]; have := G.out; omega)
      · obtain rfl : n = j := by omega
        have HN : Hid (false = b) := Lib.hid (by
          rw [← HB.out]
          refine (heavyM_no.2 ⟨by rw [HLN.out]; exact G.out, by rw [HN2.out]; exact G2.out, HMF.out, by rw [HBZ.out]; exact G3.out, fun x hx => ?_⟩).symm
          obtain ⟨k, hk, rfl⟩ := List.getElem_of_mem hx
          have := HF.out k (by rw [← HLN.out]; exact hk)
          rwa [List.getD_eq_getElem?_getD, List.getElem?_eq_getElem hk] at this)
        go_wp2
        go_ret
        exact ⟨congrArg (fun x => Ending.returned (.bool x)) HN.out, GB.out⟩
/-- the message that is shown -/
def msgS : MsgM := ⟨3, 1, 2, 4, 0, 0, 0, [], 0, 0, 0, [], noVer, zerN 32, []⟩
theorem noVer_ok : VerOk noVer := ⟨by decide, fun b h => (by cases h), fun f h => (by cases h), by decide⟩
theorem msgS_ok : MsgOk msgS := ⟨⟨by decide, by decide, by decide, by decide, by decide, by decide, by decide, ⟨by decide, fun r h => (by cases h)⟩, by decide, by decide, by decide, ⟨by decide, fun r h => (by cases h)⟩, noVer_ok, ⟨zerN_len 32, Bys.of (l := zerN 32) fun x hx => by rw [zerN] at hx; rw [List.eq_of_mem_replicate hx]; decide⟩, ⟨by decide, Bys.of fun x hx => by cases hx⟩⟩, by decide⟩
def cS : List Value := mC 3 1 2 4 0 0 0 (.slice none 0 0) 0 0 zR6 zH32 ⟨#[]⟩
theorem build_shown (w : World) : (Instr.build 36 #[(0, .int .i64 3), (1, .int .i64 1), (2, .int .i64 2), (3, .int .u32 4)]).run Try.prog w = .ok (.agg cS.toArray) w := by kernel_rfl
theorem cS_told (w : World) : MsgTold w (.agg cS.toArray) (msgU msgS) := ⟨.slice none 0 0, .slice none 0 0, zV, by rw [show msgU msgS = ⟨3, 1, 2, 4, 0, 0, 0, [], 0, 0, 0, [], noV, zerN 32, ⟨#[]⟩⟩ by unfold msgU msgS; simp [raw_noVer, tx_nil]]; rfl, ⟨_, _, rfl⟩, ⟨[], Sl.none 8, rfl, fun i h => by cases h⟩, ⟨_, _, rfl⟩, Sl.none 1, VV.none w, zerN_len 32, msgS_ok.1.2.2.2.2.2.2.2.2.2.2.2.2.2.1.2⟩
set_option maxRecDepth 100000 in
set_option maxHeartbeats 2000000 in
theorem l18_shown (w : World) : Calls Try.prog 8 #[] w fun e w' => e = .returned (.bool true) ∧ Below w.heap.size w w' := by
  have hE := fun wx => w_Enc_yes msgS (.agg cS.toArray) wx (cS_told wx) msgS_ok
  have hD := fun wx => w_Decode (msgE msgS) wx (msgT_codes.bys _ msgS_ok.1) (by decide)
  rw [dec_back msgS_ok] at hD
  have HE := Lib.hid hE
  have HD := Lib.hid hD
  clear hE hD
  generalize tx (msgE msgS) = S at *
  go_enter Try.func8, Try.ntmps8
  go_wp2_with (refine wpList_build_at rfl 36 _ rfl (.agg cS.toArray) (build_shown _) ?_)
  refine (HE.out _).mono ?_
  rintro e w2 ⟨rfl, b2⟩
  have B2 := Lib.hid b2
  clear b2
  go_wp2_with fail
  refine (HD.out _).mono ?_
  rintro e w3 ⟨v, er, rfl, b3, hok, -⟩
  obtain ⟨rfl, hv⟩ := hok msgS rfl
  obtain ⟨pl, cl, rp, rfl, -, hrp, h32, -⟩ := msg_split hv
  obtain ⟨CS, e1, hCl, hCo⟩ := msg_cells hv
  obtain ⟨M, hM⟩ : ∃ M, w3.heap.size = M := ⟨_, rfl⟩
  have e2 := congrArg (fun v => match v with | Value.agg c => c.toList | _ => []) e1
  simp only at e2
  rw [e1]
  have k2 := Blk.newAt w3 M hM 36 (c := zM.toArray) zM rfl
  have b4 := below_setRow ((Below.refl w3.heap.size w3).alloc (Nat.le_refl _) (.cells zM.toArray 36)) (show w3.heap.size ≤ M by omega) CS.toArray
  have k3 := k2.row CS (by rw [hCl]; rfl)
  have c0 : ((w3.alloc (.cells zM.toArray 36)).setRow M CS.toArray).cell? ⟨M, 0, none⟩ = some (.int .i64 3) := k3.cellOf (by rw [← e2]; rfl)
  have c3 : ((w3.alloc (.cells zM.toArray 36)).setRow M CS.toArray).cell? ⟨M, 3, none⟩ = some (.int .u32 4) := k3.cellOf (by rw [← e2]; rfl)
  have K2 := Lib.hid k2
  have HCL := Lib.hid hCl
  have HCO := Lib.hid hCo
  have HM := Lib.hid hM
  have BF := Lib.hid (B2.out.trans ((b3.trans (b4.mono b3.size)).mono B2.out.size))
  clear b3 hok hv hrp h32 e1 e2 hCl hCo hM k2 b4 k3
  go_wp2_with (first | (go_skip) | (refine wpList_alloc_n rfl 36 rfl M HM.out zM.toArray (alloc_msg _) ?_) | (refine wpList_store_blk rfl 36 _ _ rfl M CS rfl rfl K2.out (by rw [size_msg, HCL.out]) (by rw [HCL.out]; rfl) HCO.out ?_))
  go_ret
  exact ⟨rfl, BF.out⟩
end Go.Proofs.Ytloogjdojojehaa
namespace Go.Proofs.Ytloogjdojojehaa
open Go.RowKit
set_option linter.unusedVariables false

/-- what PutRequest gives of any request -/
theorem put_any (a : ReqU RawV) (ia : ReqIn a) (hs : VerS a.ver) : ∃ z : ByteArray, (∀ (v : Value) (w : World), ReqTold w v a → Calls Try.prog 9 #[v] w fun e w' => e = .returned (.string z) ∧ Below w.heap.size w w') ∧ (mayBeR a = true → ∃ x, ReqOkM x ∧ reqU x = a ∧ z = tx (reqE x)) ∧ (mayBeR a = false → z = ⟨#[]⟩) := by
  cases h : mayBeR a with
  | true =>
    obtain ⟨x, hx, he⟩ := req_of h hs.1 ia.2.1 ia.2.2.2.1
    exact ⟨tx (reqE x), fun v w hv => w_PutReq_yes x v w (by rw [he]; exact hv) hx, fun _ => ⟨x, hx, he, rfl⟩, fun h' => by cases h'⟩
  | false => exact ⟨⟨#[]⟩, fun v w hv => w_PutReq_no a v w h hv hs, (fun h' => by cases h'), fun _ => rfl⟩
theorem reqE_pos (x : ReqM) : (tx (reqE x)).size ≠ 0 := by
  rw [tx_size]
  unfold reqE
  simp only [List.length_append, big_len]
  omega
theorem reqU_inj {x y : ReqM} (hx : ReqOkM x) (hy : ReqOkM y) (h : reqU x = reqU y) : x = y := by
  obtain ⟨c, q, k, i, v⟩ := x
  obtain ⟨c', q', k', i', v'⟩ := y
  unfold reqU at h
  simp only [ReqU.mk.injEq] at h
  obtain ⟨h1, h2, h3, h4, h5⟩ := h
  have hv : v = v' := by rw [← rawOf_ver v, h5, rawOf_ver]
  have hc : c = c' := by omega
  have hk : k = k' := by omega
  rw [hc, h2, hk, h4, hv]
theorem sameQ_eq {a b : ReqU RawV} (h : sameQ a b = true) : a = b := by
  obtain ⟨c, q, k, i, v⟩ := a
  obtain ⟨c', q', k', i', v'⟩ := b
  unfold sameQ at h
  simp only [Bool.and_eq_true, decide_eq_true_eq] at h
  obtain ⟨⟨⟨⟨h1, h2⟩, h3⟩, h4⟩, h5⟩ := h
  rw [h1, h2, h3, h4, sameV_eq h5]
/-- the same bytes, the same request -/
theorem same_bytes {x y : ReqM} (hx : ReqOkM x) (hy : ReqOkM y) : ((tx (reqE x)).toList == (tx (reqE y)).toList) = sameQ (reqU x) (reqU y) := by
  cases h : sameQ (reqU x) (reqU y) with
  | true =>
    have := reqU_inj hx hy (sameQ_eq h)
    rw [this]
    exact txt_eq rfl
  | false =>
    refine txt_ne fun e => ?_
    have e2 := tx_inj (req_codes.bys _ hx) (req_codes.bys _ hy) e
    have h1 := req_codes.back x [] hx
    have h2 := req_codes.back y [] hy
    rw [e2, h2] at h1
    have e3 : y = x := by
      have := Except.ok.inj h1
      exact congrArg Prod.fst this
    rw [e3, sameQ_self] at h
    cases h
/-- a message that may be is one that can be read -/
theorem msg_of {m : MsgU} (h : msgMayR m = true) (hi : MsgIn m) (hh : m.hash.length = 32 ∧ Bys m.hash) : ∃ x, MsgOk x ∧ msgU x = m := by
  obtain ⟨k, f, t, v, l, n, c, lg, cl, sq, er, ids, ver, hs, bl⟩ := m
  unfold msgMayR at h
  simp only [Bool.and_eq_true, decide_eq_true_eq] at h
  obtain ⟨⟨⟨⟨⟨⟨⟨⟨⟨⟨⟨a1, a2⟩, a3⟩, a4⟩, a5⟩, a6⟩, a7⟩, a8⟩, a9⟩, a10⟩, a11⟩, a12⟩ := h
  obtain ⟨⟨b1, b2, b3⟩, -, b5, b6, ⟨-, b7, b8, b9⟩, b10⟩ := hi
  dsimp only at *
  obtain ⟨L, hL, hLok⟩ : ∃ L : List ReqM, L.map reqU = lg ∧ ∀ r ∈ L, ReqOkM r := by
    rw [List.all_eq_true] at a7
    have key : ∀ l : List (ReqU RawV), (∀ r ∈ l, mayBeR r = true ∧ ReqIn r) → ∃ L : List ReqM, L.map reqU = l ∧ ∀ r ∈ L, ReqOkM r := by
      intro l
      induction l with
      | nil => exact fun _ => ⟨[], rfl, fun r h => by cases h⟩
      | cons x l ih =>
        intro hx
        obtain ⟨L, e, hok⟩ := ih fun r hr => hx r (by simp [hr])
        have q := hx x (by simp)
        obtain ⟨y, hy, he⟩ := req_of q.1 q.2.2.2.2.2.1 q.2.2.1 q.2.2.2.2.1
        refine ⟨y :: L, by rw [List.map_cons, e, he], fun r hr => ?_⟩
        rcases List.mem_cons.1 hr with rfl | h
        · exact hy
        · exact hok r h
    exact key lg fun r hr => ⟨a7 r hr, b5 r hr⟩
  have e2 : ∀ k : Int, endM2 k = true → 0 ≤ k ∧ endM k.toNat = true := fun k h => by
    unfold endM2 at h
    unfold endM
    simp only [decide_eq_true_eq] at h
    refine ⟨by omega, ?_⟩
    rw [Bool.or_eq_true, Bool.and_eq_true, decide_eq_true_eq, decide_eq_true_eq, decide_eq_true_eq]
    omega
  obtain ⟨s0, s1⟩ := e2 f a2
  obtain ⟨t0, t1⟩ := e2 t a3
  have hend : ∀ n, endM n = true → n < 256 := fun n h => by
    unfold endM at h
    rw [Bool.or_eq_true, Bool.and_eq_true, decide_eq_true_eq, decide_eq_true_eq, decide_eq_true_eq] at h
    omega
  have hvo := (ver_okR b9.1 a11).1
  have hbl : (sl bl).length ≤ 1000 := by rw [sl_len]; exact a12
  refine ⟨⟨k.toNat, f.toNat, t.toNat, v, l, n.toNat, c.toNat, L, cl.toNat, sq, er.toNat, ids, ver.ver, hs, sl bl⟩, ⟨⟨by show k.toNat < 2 ^ (8 * 1); omega, hend _ s1, hend _ t1, by show v < 2 ^ (8 * 4); omega, by show l < 2 ^ (8 * 4); omega, by show n.toNat < 2 ^ (8 * 1); omega, by show c.toNat < 2 ^ (8 * 1); omega, ⟨?_, hLok⟩, by show cl.toNat < 2 ^ (8 * 1); omega, by show sq < 2 ^ (8 * 4); omega, by show er.toNat < 2 ^ (8 * 2); omega, ⟨a10, fun n hn => by have := b8 n hn; show n < 2 ^ (8 * 4); omega⟩, hvo, hh, ⟨?_, sl_bys bl⟩⟩, ?_⟩, ?_⟩
  · show L.length ≤ 40
    rw [← List.length_map (f := reqU), hL]
    exact a6
  · show (sl bl).length < 18446744073709551616
    exact Nat.lt_of_le_of_lt hbl (by decide)
  · unfold msgMay
    dsimp only
    rw [s1, t1, decide_eq_true (show 1 ≤ k.toNat by omega), decide_eq_true (show k.toNat ≤ 14 by omega), decide_eq_true (show n.toNat ≤ 40 by omega), decide_eq_true (show c.toNat ≤ 40 by omega), decide_eq_true (show cl.toNat < 3 by omega), decide_eq_true (show er.toNat ≤ 1000 by omega), decide_eq_true hbl]
    rfl
  · unfold msgU
    dsimp only
    rw [hL, raw_ver (a := ver) b9.1 a11, tx_sl, Int.toNat_of_nonneg (show 0 ≤ k by omega), Int.toNat_of_nonneg s0, Int.toNat_of_nonneg t0, Int.toNat_of_nonneg a4.1, Int.toNat_of_nonneg a5.1, Int.toNat_of_nonneg a8.1, Int.toNat_of_nonneg a9.1]
/-- messages of no more than may be -/
theorem msg_S {m : MsgU} (hi : MsgIn m) (h : heavyM m = false) : MsgS m ∧ MsgI m := by
  obtain ⟨h1, h2, h3, h4, h5⟩ := heavyM_no.1 h
  have hv := ver_S hi.rep.2.2.2 h3
  have hl : ∀ i, i < m.log.length → VerS (m.log.getD i noQ).ver := fun i hj => ver_S (hi.log _ (req_mem hj)).2.2.2.2 (h5 _ (req_mem hj))
  exact ⟨⟨by omega, hl, by omega, hv, by omega⟩, ⟨by omega, hl, by show m.ids.length ≤ 1000; omega, trivial, hv⟩⟩
/-- what Encode gives of any message -/
theorem enc_any (m : MsgU) (hi : MsgIn m) (hs : MsgS m) (hh : m.hash.length = 32 ∧ Bys m.hash) : ∃ (z : ByteArray) (er : Nat), (∀ (v : Value) (w : World), MsgTold w v m → Calls Try.prog 12 #[v] w fun e w' => e = .returned (.tuple #[.string z, .int .i64 (er : Int)]) ∧ Below w.heap.size w w') ∧ (msgMayR m = true → er = 0 ∧ ∃ x, MsgOk x ∧ msgU x = m ∧ z = tx (msgE x)) ∧ (msgMayR m = false → er = 1 ∧ z = ⟨#[]⟩) := by
  cases h : msgMayR m with
  | true =>
    obtain ⟨x, hx, he⟩ := msg_of h hi hh
    exact ⟨tx (msgE x), 0, fun v w hv => w_Enc_yes x v w (by rw [he]; exact hv) hx, fun _ => ⟨rfl, x, hx, he, rfl⟩, fun h' => by cases h'⟩
  | false => exact ⟨⟨#[]⟩, 1, fun v w hv => w_Enc_no m v w h hv hs, (fun h' => by cases h'), fun _ => ⟨rfl, rfl⟩⟩
theorem zM_one : zM.length = 49 ∧ zM.toArray.all (·.oneCell') = true := by
  obtain ⟨R', e', h1, h2⟩ := msg_cells (zM_told ((default : World)))
  have e2 := congrArg (fun v => match v with | Value.agg c => c.toList | _ => []) e'
  simp only at e2
  exact ⟨by rw [e2]; exact h1, by rw [e2]; exact h2⟩
theorem req_oneC {w : World} {Q : List Value} {r : ReqU RawV} (h : ReqTold w (.agg Q.toArray) r) : Q.toArray.all (·.oneCell') = true := by
  obtain ⟨q, e, hv⟩ := h
  obtain ⟨pb, cb, pn, cn, pz, cz, rfl⟩ := hv.row
  have e2 := congrArg (fun v => match v with | Value.agg c => c.toList | _ => []) e
  simp at e2
  rw [e2]
  simp [cellsQ, cellsO, cellsV, Value.oneCell']
theorem msgE_len {m : MsgM} (hm : MsgOk m) : (msgE m).length ≤ 60000 ∧ 23 ≤ (msgE m).length := by
  have h1 := reqs_len hm.1.2.2.2.2.2.2.2.1.2
  have h2 := hm.1.2.2.2.2.2.2.2.1.1
  have h3 := hm.1.2.2.2.2.2.2.2.2.2.2.2.1.1
  have h4 := (ver_small hm.1.2.2.2.2.2.2.2.2.2.2.2.2.1).1
  have h5 := hm.1.2.2.2.2.2.2.2.2.2.2.2.2.2.1.1
  have h6 := flat_big_len 4 m.ids
  have h7 := put_len_le m.block.length
  have h8 : m.block.length ≤ 1000 := by
    have qm := hm.2
    unfold msgMay at qm
    simp only [Bool.and_eq_true, decide_eq_true_eq] at qm
    exact qm.2
  unfold msgE
  simp only [List.length_append, big_len, id]
  omega
end Go.Proofs.Ytloogjdojojehaa
