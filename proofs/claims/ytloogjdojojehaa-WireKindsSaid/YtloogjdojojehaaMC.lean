/- Slices of rows that a make makes (general; moved out of XUWAl). -/
import Derived.Test.YtloogjdojojehaaJ1
import Derived.Test.YtloogjdojojehaaMB
namespace Go.Proofs.Ytloogjdojojehaa
open Go.RowKit
set_option linter.unusedVariables false

theorem made_rows (n : Nat) (z : List Value) (hz : 0 < z.length) : (madeCells z.toArray (n * z.length)).toList = (List.replicate n z).flatten := by
  have hk : ∀ r ∈ List.replicate n z, r.length = z.length := fun r hr => by rw [List.eq_of_mem_replicate hr]
  apply List.ext_getElem?
  intro j
  by_cases hj : j < n * z.length
  · have hd : j / z.length < n := Nat.div_lt_of_lt_mul (by rw [Nat.mul_comm]; exact hj)
    have hm : j % z.length < z.length := Nat.mod_lt _ hz
    have h1 : (List.replicate n z)[j / z.length]? = some z := by rw [List.getElem?_replicate, if_pos hd]
    have h3 := flat_at hk h1 (List.getElem?_eq_getElem hm)
    rw [show j / z.length * z.length + j % z.length = j by rw [Nat.mul_comm]; exact Nat.div_add_mod j z.length] at h3
    rw [h3]
    simp [madeCells, hj, hm]
  · have h1 : (madeCells z.toArray (n * z.length)).toList.length ≤ j := by simp [madeCells]; omega
    have h2 : (List.replicate n z).flatten.length ≤ j := by rw [flat_len hk, List.length_replicate]; omega
    rw [List.getElem?_eq_none h1, List.getElem?_eq_none h2]
theorem own_blkK {w : World} {B g k : Nat} {t : TypeId} {rows : List (List Value)} (hk : ∀ r ∈ rows, r.length = k) (h : Blk w g t rows.flatten) (hB : B ≤ g) (hm : rows.length ≤ maxLen) : OwnR w B t k (.slice (some ⟨g, 0, none⟩) rows.length rows.length) rows := by
  have hl := flat_len hk
  refine ⟨hk, hl, .inr ⟨g, rows.length, rows.flatten.toArray, rfl, hB, h, Nat.le_refl _, hm, by simp [hl], ?_⟩⟩
  rw [List.toList_toArray, ← hl, List.take_length]
end Go.Proofs.Ytloogjdojojehaa
namespace Go.Proofs.Ytloogjdojojehaa
open Go.RowKit
set_option linter.unusedVariables false

/-- what stands ahead of what is read -/
def addP {α : Type} (pre : List α) (x : Except Nat (List α × List Nat)) : Except Nat (List α × List Nat) := match x with
  | .error e => .error e
  | .ok z => .ok (pre ++ z.1, z.2)
theorem addP_nil {α : Type} (x : Except Nat (List α × List Nat)) : addP [] x = x := by rcases x with e | ⟨a, r⟩ <;> rfl
theorem many_succ {α : Type} (p : List Nat → Except Nat (α × List Nat)) (k : Nat) (s : List Nat) : manyP p (k + 1) s = thenP (p s) fun x r => thenP (manyP p k r) fun l t => .ok (x :: l, t) := by
  show (match p s with
    | Except.error e => Except.error e
    | Except.ok (x, r) => match manyP p k r with
      | Except.error e => Except.error e
      | Except.ok (l, t) => Except.ok (x :: l, t)) = _
  rcases p s with e | ⟨x, r⟩
  · rfl
  simp only [then_ok]
  rcases manyP p k r with e | ⟨l, t⟩ <;> rfl
theorem addP_step {α : Type} (p : List Nat → Except Nat (α × List Nat)) (pre : List α) (k : Nat) (s : List Nat) : addP pre (manyP p (k + 1) s) = thenP (p s) fun x r => addP (pre ++ [x]) (manyP p k r) := by
  rw [many_succ]
  rcases p s with e | ⟨x, r⟩
  · rfl
  simp only [then_ok]
  rcases manyP p k r with e | ⟨l, t⟩
  · rfl
  · simp [addP, then_ok]
theorem addP_zero {α : Type} (p : List Nat → Except Nat (α × List Nat)) (pre : List α) (s : List Nat) : addP pre (manyP p 0 s) = .ok (pre, s) := by simp [manyP, addP]
/-- requests whose slices are the call's own -/
def LO (w : World) (base : Nat) (v : Value) (rs : List (ReqU RawV)) : Prop :=
  ∃ rows, OwnR w base 40 8 v rows ∧ rows.length = rs.length ∧ ∀ i, i < rs.length → ∃ r, rows[i]? = some r ∧ QO w base (.agg r.toArray) (rs.getD i noQ)
section
variable {w w' : World} {base : Nat} {v : Value} {rs : List (ReqU RawV)}
theorem LO.keep (h : LO w base v rs) (hb : Below w.heap.size w w') : LO w' base v rs := by
  obtain ⟨rows, h1, h2, h3⟩ := h
  exact ⟨rows, h1.keep hb, h2, fun i hi => by obtain ⟨r, e, q⟩ := h3 i hi; exact ⟨r, e, q.keep hb⟩⟩
theorem LO.but {B : Nat} (h : LO w base v rs) (hg : w.grownBy w' (some B)) (hB : B < base) : LO w' base v rs := by
  obtain ⟨rows, h1, h2, h3⟩ := h
  refine ⟨rows, h1.grownO hg (fun b hb he => ?_), h2, fun i hi => ?_⟩
  · have := (h1.lt b hb).1
    cases he
    omega
  · obtain ⟨r, e, q⟩ := h3 i hi
    exact ⟨r, e, q.but hg hB⟩
theorem LO.lower (h : LO w base v rs) {base' : Nat} (hb : base' ≤ base) : LO w base' v rs := by
  obtain ⟨rows, h1, h2, h3⟩ := h
  exact ⟨rows, h1.lower hb, h2, fun i hi => by obtain ⟨r, e, q⟩ := h3 i hi; exact ⟨r, e, q.lower hb⟩⟩
theorem LO.told (h : LO w base v rs) : ReqsV w v rs := by
  obtain ⟨rows, h1, h2, h3⟩ := h
  exact ⟨rows, h1.sl, h2, fun i hi => by obtain ⟨r, e, q⟩ := h3 i hi; exact ⟨r, e, q.told⟩⟩
theorem LO.slice (h : LO w base v rs) : ∃ p c, v = .slice p rs.length c := by
  obtain ⟨rows, h1, h2, h3⟩ := h
  have := h1.isSlice
  rwa [h2] at this
end
theorem info_req : (Try.prog.info? 40).map (fun i => (i.zero, i.size, i.bytes)) = some (some (.agg zQ.toArray), 8, 112) := by kernel_rfl
theorem make_reqs (n : Nat) (h : n ≤ 100000) (w : World) : (Instr.makeSlice 23 (.int .i64 (n : Int)) (.int .i64 (n : Int))).run Try.prog w = .ok (.slice (some ⟨w.heap.size, 0, none⟩) n n) (w.alloc (.cells (List.replicate n zQ).flatten.toArray 40)) := by
  obtain ⟨i0, hi0, hz0, hz1, hz2⟩ := info_parts2 info_req
  have hr := run_make (P := Try.prog) w 23 40 i0 (.agg zQ.toArray) Try.underlying23 hi0 hz0 .i64 .i64 n n (by omega) (Int.le_refl _) (by rw [hz2]; omega) (by omega)
  simp only [Int.toNat_natCast, hz1] at hr
  have e : madeCells (Value.agg zQ.toArray).cells (n * 8) = (List.replicate n zQ).flatten.toArray := by
    apply Array.ext'
    rw [List.toList_toArray]
    exact made_rows n zQ (by decide)
  rw [hr, e]
/-- rows of requests that were read, and rows of none -/
theorem rows_put {D : List (List Value)} (hD : ∀ r ∈ D, r.length = 8) {n : Nat} (R : List Value) (hn : D.length < n) :
    (D ++ List.replicate (n - D.length) zQ).flatten = D.flatten ++ (zQ ++ (List.replicate (n - (D.length + 1)) zQ).flatten) ∧
      D.flatten ++ (R ++ (List.replicate (n - (D.length + 1)) zQ).flatten) = ((D ++ [R]) ++ List.replicate (n - (D ++ [R]).length) zQ).flatten ∧ D.flatten.length = D.length * 8 := by
  refine ⟨?_, ?_, flat_len hD⟩
  · rw [List.flatten_append, show n - D.length = (n - (D.length + 1)) + 1 by omega, List.replicate_succ, List.flatten_cons]
  · rw [List.flatten_append, List.flatten_append, List.length_append, List.length_singleton]
    simp
set_option maxRecDepth 100000 in
set_option maxHeartbeats 4000000 in
theorem w_manyReq (B : Nat) (s0 : List Nat) (w : World) (hB : Left w B s0) (hs : Bys s0) (hl : s0.length ≤ 65536) :
    Calls Try.prog 52 #[.pointer (some ⟨B, 0, none⟩), .int .i64 40, .func (.func 22) #[] #[]] w (StP (countB reqP 40 111 s0) (fun l w' v => LO w' w.heap.size v (l.map reqU)) w B) := by
  obtain ⟨X, hX⟩ : ∃ X, countB reqP 40 111 s0 = X := ⟨_, rfl⟩
  rw [hX]
  rw [count_then] at hX
  have HX0 := Lib.hid hX
  have S0 := Lib.hid hs
  have L0 := Lib.hid hl
  have HOK := Lib.hid w_need_ok
  have HNO : Hid (∀ wx, Calls Try.prog 28 #[.bool false, .int .i64 111] wx fun e w' => e = DiedW 111 ∧ w' = wx) := Lib.hid (w_need_no 111)
  have HLT := Lib.hid hB.lt
  have HN0 : Hid (Calls Try.prog 43 #[.pointer (some ⟨B, 0, none⟩), .int .i64 1] w (StP (fixP 1 s0) (fun n _ v => v = .int .i64 (n : Int)) w B)) := Lib.hid (w_numI B 1 s0 w hB hs hl (by decide) (by decide))
  clear hB hX hs hl
  go_enter Try.func52, Try.ntmps52
  go_wp2_with fail
  refine HN0.out.mono ?_
  rintro e w1 ⟨hg, hok, hno⟩
  rcases hx : fixP 1 s0 with er | ⟨n, s1⟩
  · obtain rfl := hno er hx
    have q := HX0.out
    rw [hx, then_err] at q
    subst q
    exact ⟨rfl, StP.no hg⟩
  obtain ⟨v, rfl, rfl, hL⟩ := hok n s1 hx
  have q := HX0.out
  rw [hx, then_ok] at q
  have HX1 := Lib.hid q
  have F0 := Lib.hid (fix_facts S0.out hx)
  have S1 := Lib.hid F0.out.2.1
  have L1 : Hid (s1.length ≤ 65536) := Lib.hid (Nat.le_trans F0.out.2.2 L0.out)
  have G1 := Lib.hid hg
  have LF1 := Lib.hid hL
  clear q hg hok hno hx hL HN0 HX0
  by_cases hn : n ≤ 40
  case neg =>
    have q := HX1.out
    rw [if_neg hn] at q
    subst q
    have g0 : ¬ (n : Int) ≤ 40 := by omega
    have g1 : decide ((n : Int) ≤ 40) = false := decide_eq_false g0
    clear hn
    go_wp2_with fail
    refine (HNO.out _).mono ?_
    rintro e wx ⟨rfl, rfl⟩
    exact ⟨rfl, StP.no G1.out⟩
  have q := HX1.out
  rw [if_pos hn] at q
  have HX2 : Hid (addP [] (manyP reqP (n - 0) s1) = X) := Lib.hid (by rw [addP_nil, Nat.sub_zero]; exact q)
  have g0 : (n : Int) ≤ 40 := by omega
  have g1 : decide ((n : Int) ≤ 40) = true := decide_eq_true g0
  have HN40 := Lib.hid hn
  clear q HX1 hn
  go_wp2_with fail
  refine (HOK.out _ _).mono ?_
  rintro e w1 ⟨rfl, rfl⟩
  obtain ⟨G, hG⟩ : ∃ G, w1.heap.size = G := ⟨_, rfl⟩
  have hmk := make_reqs n (by have := HN40.out; omega) w1
  rw [hG] at hmk
  have kG := Blk.newAt w1 G hG 40 (c := (List.replicate n zQ).flatten.toArray) _ rfl
  have kb := (Below.refl w1.heap.size w1).alloc (Nat.le_refl _) (.cells (List.replicate n zQ).flatten.toArray 40)
  obtain ⟨w2, hw2⟩ : ∃ w2, w1.alloc (.cells (List.replicate n zQ).flatten.toArray 40) = w2 := ⟨_, rfl⟩
  rw [hw2] at hmk kG kb
  have HGB : Hid (B < G ∧ w.heap.size ≤ G ∧ G < w2.heap.size) := Lib.hid ⟨by have := HLT.out; have := G1.out.size; omega, by have := G1.out.size; omega, kG.lt⟩
  have G2 := Lib.hid (grown_belowN G1.out kb)
  have LF2 := Lib.hid (LF1.out.keep kb)
  have KG := Lib.hid kG
  clear kG kb hw2 hG
  go_wp2
  clear hmk
  go_loopw [20] (fun i wr => ∃ (j : Nat) (D : List (List Value)) (pre : List ReqM) (s : List Nat), j ≤ n ∧ i = .int .i64 (j : Int) ∧ D.length = j ∧ pre.length = j ∧ (∀ r ∈ D, r.length = 8) ∧ addP pre (manyP reqP (n - j) s) = X ∧ Bys s ∧ s.length ≤ 65536 ∧ w.grownBy wr (some B) ∧ Left wr B s ∧ G < wr.heap.size ∧ Blk wr G 40 (D ++ List.replicate (n - D.length) zQ).flatten ∧ ∀ k, k < j → ∃ r, D[k]? = some r ∧ QO wr (G + 1) (.agg r.toArray) ((pre.map reqU).getD k noQ)) (fun i _ => n - (intOf i).toNat)
  case atStart => exact ⟨0, [], [], s1, Nat.zero_le _, rfl, rfl, rfl, (fun r h => by cases h), HX2.out, S1.out, L1.out, G2.out, LF2.out, HGB.out.2.2, KG.out, fun k hk => absurd hk (Nat.not_lt_zero k)⟩
  case round =>
    obtain ⟨j, D, pre, s, hj, rfl, hDl, hpl, hD8, hXj, hs, hl, hg, hL, hGr, kG, hq⟩ := hrel
    have HXJ := Lib.hid hXj
    have HD8 := Lib.hid hD8
    have HDL := Lib.hid hDl
    have HPL := Lib.hid hpl
    have SJ := Lib.hid hs
    have LJ := Lib.hid hl
    have GJ := Lib.hid hg
    have LFJ := Lib.hid hL
    have KJ := Lib.hid kG
    have QJ := Lib.hid hq
    have HGR := Lib.hid hGr
    clear hDl hpl hD8 hXj hs hl hg hL hGr kG hq KG G2 LF2 HX2
    by_cases hlt : j < n
    · have d1 : (j : Int) < (n : Int) := by omega
      have HR := Lib.hid (w_request B s wr LFJ.out SJ.out LJ.out)
      have HJN := Lib.hid hlt
      go_wp2_with fail
      refine HR.out.mono ?_
      rintro e w4 ⟨hg4, hok, hno⟩
      have q := HXJ.out
      rw [show n - j = (n - (j + 1)) + 1 by have := HJN.out; omega, addP_step] at q
      rcases hx : reqP s with er | ⟨x, t⟩
      · obtain rfl := hno er hx
        rw [hx, then_err] at q
        subst q
        exact ⟨rfl, StP.no (GJ.out.trans hg4)⟩
      obtain ⟨v, rfl, hv, hL4⟩ := hok x t hx
      rw [hx, then_ok] at q
      have hrf := req_codes.from_ s x t SJ.out hx
      have hrest := req_codes.rest SJ.out hx
      have htl : t.length ≤ 65536 := by
        have h1 := congrArg List.length hrf.2
        rw [List.length_append] at h1
        have := LJ.out
        omega
      obtain ⟨R, rfl, hR8, hR1⟩ := QO.cells hv
      have hp := rows_put HD8.out R (show D.length < n by rw [HDL.out]; exact HJN.out)
      have hb4 := KJ.out.grownO hg4 (fun i e => by cases e; have := HGB.out; omega)
      rw [hp.1] at hb4
      have HP := Lib.hid hp
      have K4 := Lib.hid hb4
      have HR8 := Lib.hid hR8
      have HR1 := Lib.hid hR1
      have HXN := Lib.hid q
      have HTB := Lib.hid hrest
      have HTL := Lib.hid htl
      have G4 := Lib.hid (GJ.out.trans hg4)
      have LF4 := Lib.hid hL4
      have QN := Lib.hid (hv.lower (show G + 1 ≤ wr.heap.size from HGR.out))
      have QO4 : Hid (∀ k, k < j → ∃ r, D[k]? = some r ∧ QO w4 (G + 1) (.agg r.toArray) ((pre.map reqU).getD k noQ)) := Lib.hid fun k hk => by
        obtain ⟨r, e, h⟩ := QJ.out k hk
        exact ⟨r, e, h.but hg4 (by have := HGB.out; omega)⟩
      have hz4 : G < w4.heap.size := Nat.lt_of_lt_of_le HGR.out hg4.size
      have HZ4 := Lib.hid hz4
      clear hg4 hok hno hx hrf hrest htl hR8 hR1 hp hb4 q hv hL4 hz4 HR
      go_wp2_with (refine wpList_store_part rfl 40 _ _ rfl G (j * 8) rfl R rfl D.flatten zQ ((List.replicate (n - (D.length + 1)) zQ).flatten) K4.out (by rw [HP.out.2.2, HDL.out]) (by rw [HR8.out]; rfl) (by rw [size_req, HR8.out]) HR1.out ?_; rintro w5 k5 b5 hw5; replace hw5 := Lib.hid hw5)
      have K5 : Hid (Blk w5 G 40 ((D ++ [R]) ++ List.replicate (n - (D ++ [R]).length) zQ).flatten) := Lib.hid (by rw [← HP.out.2.1]; exact k5)
      have G5 : Hid (w.grownBy w5 (some B)) := Lib.hid (by rw [hw5.out]; exact grown_setCellsN HGB.out.2.1 R _ _ G4.out)
      have LF5 : Hid (Left w5 B t) := Lib.hid (by rw [hw5.out]; exact LF4.out.cellsOther (by have := HGB.out; omega) R _)
      have q5 : ∀ {x : Value} {y : ReqU RawV}, QO w4 (G + 1) x y → QO w5 (G + 1) x y := fun h => by
        obtain ⟨q, e, h⟩ := h
        exact ⟨q, e, by rw [hw5.out]; exact vo_cells (Nat.lt_succ_self G) R _ h⟩
      have QO5 : Hid (∀ k, k < j + 1 → ∃ r, (D ++ [R])[k]? = some r ∧ QO w5 (G + 1) (.agg r.toArray) (((pre ++ [x]).map reqU).getD k noQ)) := Lib.hid fun k hk => by
        by_cases e : k < j
        · obtain ⟨r, e1, h⟩ := QO4.out k e
          refine ⟨r, by rw [List.getElem?_append_left (by rw [HDL.out]; exact e)]; exact e1, ?_⟩
          rw [List.map_append, List.getD_eq_getElem?_getD, List.getElem?_append_left (by rw [List.length_map, HPL.out]; exact e), ← List.getD_eq_getElem?_getD]
          exact q5 h
        · obtain rfl : k = j := by omega
          refine ⟨R, by rw [List.getElem?_append_right (by rw [HDL.out]; exact Nat.le_refl _), HDL.out]; simp, ?_⟩
          rw [List.map_append, List.getD_eq_getElem?_getD, List.getElem?_append_right (by rw [List.length_map, HPL.out]; exact Nat.le_refl _), List.length_map, HPL.out]
          simpa using q5 QN.out
      have hz5 : Hid (G < w5.heap.size) := Lib.hid (Nat.lt_of_lt_of_le HZ4.out b5.size)
      clear k5 b5 hw5 q5
      go_wp2
      go_roundw
      case rel => exact ⟨j + 1, D ++ [R], pre ++ [x], t, by omega, by go_num, by rw [List.length_append, HDL.out]; rfl, by rw [List.length_append, HPL.out]; rfl, (fun r hr => by
        rcases List.mem_append.1 hr with h | h
        · exact HD8.out r h
        · rw [List.mem_singleton.1 h]; exact HR8.out), HXN.out, HTB.out, HTL.out, G5.out, LF5.out, hz5.out, K5.out, QO5.out⟩
      case measure => simp [intOf]; omega
    · obtain rfl : j = n := by omega
      have q := HXJ.out
      rw [Nat.sub_self, addP_zero] at q
      subst q
      have hrl : D.length = (pre.map reqU).length := by rw [List.length_map, HDL.out, HPL.out]
      have kd : Blk wr G 40 D.flatten := by
        have := KJ.out
        rw [HDL.out, Nat.sub_self, List.replicate_zero, List.append_nil] at this
        exact this
      have LOF : Hid (LO wr w.heap.size (.slice (some ⟨G, 0, none⟩) j j) (pre.map reqU)) := Lib.hid (by
        have h1 := own_blkK HD8.out kd HGB.out.2.1 (by rw [HDL.out]; have := HN40.out; exact Nat.le_trans this (by decide))
        rw [HDL.out] at h1
        refine ⟨D, h1, hrl, fun i hi => ?_⟩
        obtain ⟨r, e, h⟩ := QJ.out i (by rw [← HPL.out, ← List.length_map (f := reqU)]; exact hi)
        exact ⟨r, e, h.lower (by have := HGB.out; omega)⟩)
      clear hlt hj kd hrl
      go_wp2
      go_ret
      exact StP.ok GJ.out LOF.out LFJ.out
end Go.Proofs.Ytloogjdojojehaa
namespace Go.Proofs.Ytloogjdojojehaa
open Go.RowKit
set_option linter.unusedVariables false

def us (l : List Nat) : List Value := l.map fun (x : Nat) => Value.int .u32 (x : Int)
theorem us_len (l : List Nat) : (us l).length = l.length := by simp [us]
theorem us_flat (l : List Nat) : (rowsU .u32 l).flatten = us l := by
  unfold rowsU us
  induction l with
  | nil => rfl
  | cons x l ih => simp_all
theorem us_one (l : List Nat) : ∀ r ∈ rowsU .u32 l, r.length = 1 := fun r hr => by
  unfold rowsU at hr
  obtain ⟨x, _, rfl⟩ := List.mem_map.1 hr
  rfl
theorem us_rows (l : List Nat) : (rowsU .u32 l).length = l.length := by simp [rowsU]
theorem us_put (pre : List Nat) (x : Nat) {n j : Nat} (hn : pre.length < n) (hj : pre.length = j) : (us pre ++ List.replicate (n - pre.length) (Value.int .u32 0)).set j (.int .u32 (x : Int)) = us (pre ++ [x]) ++ List.replicate (n - (pre ++ [x]).length) (Value.int .u32 0) := by
  subst hj
  rw [List.set_append_right _ _ (by rw [us_len]; exact Nat.le_refl _), us_len, Nat.sub_self, show n - pre.length = (n - (pre ++ [x]).length) + 1 by rw [List.length_append, List.length_singleton]; omega, List.replicate_succ]
  simp [us]
theorem info_u32M : (Try.prog.info? 22).map (fun i => (i.zero, i.size, i.bytes)) = some (some (.int .u32 0), 1, 4) := by kernel_rfl
theorem make_u32M (n : Nat) (h : n ≤ 1000000) (w : World) : (Instr.makeSlice 25 (.int .i64 (n : Int)) (.int .i64 (n : Int))).run Try.prog w = .ok (.slice (some ⟨w.heap.size, 0, none⟩) n n) (w.alloc (.cells (List.replicate n (Value.int .u32 0)).toArray 22)) := by
  obtain ⟨i0, hi0, hz0, hz1, hz2⟩ := info_parts2 info_u32M
  have hr := run_make (P := Try.prog) w 25 22 i0 (.int .u32 0) Try.underlying25 hi0 hz0 .i64 .i64 n n (by omega) (Int.le_refl _) (by rw [hz2]; omega) (by omega)
  simp only [Int.toNat_natCast, hz1, Nat.mul_one] at hr
  have e : madeCells (Value.int .u32 0).cells n = (List.replicate n (Value.int .u32 0)).toArray := by
    apply Array.ext'
    rw [show (Value.int .u32 0).cells = #[.int .u32 0] from rfl, toList_madeCells_one]
  rw [hr, e]
set_option maxRecDepth 100000 in
set_option maxHeartbeats 4000000 in
theorem w_manyId (B : Nat) (s0 : List Nat) (w : World) (hB : Left w B s0) (hs : Bys s0) (hl : s0.length ≤ 65536) :
    Calls Try.prog 70 #[.pointer (some ⟨B, 0, none⟩), .int .i64 8, .func (.func 45) #[] #[]] w (StP (countB (fixP 4) 8 111 s0) (fun l w' v => OwnR w' w.heap.size 22 1 v (rowsU .u32 l)) w B) := by
  obtain ⟨X, hX⟩ : ∃ X, countB (fixP 4) 8 111 s0 = X := ⟨_, rfl⟩
  rw [hX]
  rw [count_then] at hX
  have HX0 := Lib.hid hX
  have S0 := Lib.hid hs
  have L0 := Lib.hid hl
  have HOK := Lib.hid w_need_ok
  have HNO : Hid (∀ wx, Calls Try.prog 28 #[.bool false, .int .i64 111] wx fun e w' => e = DiedW 111 ∧ w' = wx) := Lib.hid (w_need_no 111)
  have HLT := Lib.hid hB.lt
  have HN0 : Hid (Calls Try.prog 43 #[.pointer (some ⟨B, 0, none⟩), .int .i64 1] w (StP (fixP 1 s0) (fun n _ v => v = .int .i64 (n : Int)) w B)) := Lib.hid (w_numI B 1 s0 w hB hs hl (by decide) (by decide))
  clear hB hX hs hl
  go_enter Try.func70, Try.ntmps70
  go_wp2_with fail
  refine HN0.out.mono ?_
  rintro e w1 ⟨hg, hok, hno⟩
  rcases hx : fixP 1 s0 with er | ⟨n, s1⟩
  · obtain rfl := hno er hx
    have q := HX0.out
    rw [hx, then_err] at q
    subst q
    exact ⟨rfl, StP.no hg⟩
  obtain ⟨v, rfl, rfl, hL⟩ := hok n s1 hx
  have q := HX0.out
  rw [hx, then_ok] at q
  have HX1 := Lib.hid q
  have F0 := Lib.hid (fix_facts S0.out hx)
  have S1 := Lib.hid F0.out.2.1
  have L1 : Hid (s1.length ≤ 65536) := Lib.hid (Nat.le_trans F0.out.2.2 L0.out)
  have G1 := Lib.hid hg
  have LF1 := Lib.hid hL
  clear q hg hok hno hx hL HN0 HX0
  by_cases hn : n ≤ 8
  case neg =>
    have q := HX1.out
    rw [if_neg hn] at q
    subst q
    have g0 : ¬ (n : Int) ≤ 8 := by omega
    have g1 : decide ((n : Int) ≤ 8) = false := decide_eq_false g0
    clear hn
    go_wp2_with fail
    refine (HNO.out _).mono ?_
    rintro e wx ⟨rfl, rfl⟩
    exact ⟨rfl, StP.no G1.out⟩
  have q := HX1.out
  rw [if_pos hn] at q
  have HX2 : Hid (addP [] (manyP (fixP 4) (n - 0) s1) = X) := Lib.hid (by rw [addP_nil, Nat.sub_zero]; exact q)
  have g0 : (n : Int) ≤ 8 := by omega
  have g1 : decide ((n : Int) ≤ 8) = true := decide_eq_true g0
  have HN40 := Lib.hid hn
  clear q HX1 hn
  go_wp2_with fail
  refine (HOK.out _ _).mono ?_
  rintro e w1 ⟨rfl, rfl⟩
  obtain ⟨G, hG⟩ : ∃ G, w1.heap.size = G := ⟨_, rfl⟩
  have hmk := make_u32M n (by have := HN40.out; omega) w1
  rw [hG] at hmk
  have kG := Blk.newAt w1 G hG 22 (c := (List.replicate n (Value.int .u32 0)).toArray) _ rfl
  have kb := (Below.refl w1.heap.size w1).alloc (Nat.le_refl _) (.cells (List.replicate n (Value.int .u32 0)).toArray 22)
  obtain ⟨w2, hw2⟩ : ∃ w2, w1.alloc (.cells (List.replicate n (Value.int .u32 0)).toArray 22) = w2 := ⟨_, rfl⟩
  rw [hw2] at hmk kG kb
  have HGB : Hid (B < G ∧ w.heap.size ≤ G ∧ G < w2.heap.size) := Lib.hid ⟨by have := HLT.out; have := G1.out.size; omega, by have := G1.out.size; omega, kG.lt⟩
  have G2 := Lib.hid (grown_belowN G1.out kb)
  have LF2 := Lib.hid (LF1.out.keep kb)
  have KG := Lib.hid kG
  clear kG kb hw2 hG
  go_wp2
  clear hmk
  go_loopw [20] (fun i wr => ∃ (j : Nat) (pre : List Nat) (s : List Nat), j ≤ n ∧ i = .int .i64 (j : Int) ∧ pre.length = j ∧ addP pre (manyP (fixP 4) (n - j) s) = X ∧ Bys s ∧ s.length ≤ 65536 ∧ w.grownBy wr (some B) ∧ Left wr B s ∧ G < wr.heap.size ∧ Blk wr G 22 (us pre ++ List.replicate (n - pre.length) (.int .u32 0))) (fun i _ => n - (intOf i).toNat)
  case atStart => exact ⟨0, [], s1, Nat.zero_le _, rfl, rfl, HX2.out, S1.out, L1.out, G2.out, LF2.out, HGB.out.2.2, KG.out⟩
  case round =>
    obtain ⟨j, pre, s, hj, rfl, hpl, hXj, hs, hl, hg, hL, hGr, kG⟩ := hrel
    have HXJ := Lib.hid hXj
    have HPL := Lib.hid hpl
    have SJ := Lib.hid hs
    have LJ := Lib.hid hl
    have GJ := Lib.hid hg
    have LFJ := Lib.hid hL
    have KJ := Lib.hid kG
    have HGR := Lib.hid hGr
    clear hpl hXj hs hl hg hL hGr kG KG G2 LF2 HX2
    by_cases hlt : j < n
    · have d1 : (j : Int) < (n : Int) := by omega
      have HR := Lib.hid (w_id B s wr LFJ.out SJ.out LJ.out)
      have HJN := Lib.hid hlt
      go_wp2_with fail
      refine HR.out.mono ?_
      rintro e w4 ⟨hg4, hok, hno⟩
      have q := HXJ.out
      rw [show n - j = (n - (j + 1)) + 1 by have := HJN.out; omega, addP_step] at q
      rcases hx : fixP 4 s with er | ⟨x, t⟩
      · obtain rfl := hno er hx
        rw [hx, then_err] at q
        subst q
        exact ⟨rfl, StP.no (GJ.out.trans hg4)⟩
      obtain ⟨v, rfl, rfl, hL4⟩ := hok x t hx
      rw [hx, then_ok] at q
      have hf := fix_facts SJ.out hx
      have htl : t.length ≤ 65536 := Nat.le_trans hf.2.2 LJ.out
      have hb4 := KJ.out.grownO hg4 (fun i e => by cases e; have := HGB.out; omega)
      have f4 := hb4.free j
      have hcl : (us pre ++ List.replicate (n - pre.length) (Value.int .u32 0))[j]? = some (.int .u32 0) := by
        rw [List.getElem?_append_right (by rw [us_len, HPL.out]; exact Nat.le_refl _), us_len, HPL.out, Nat.sub_self, List.getElem?_replicate, if_pos (by have := HJN.out; omega)]
      have c4 := hb4.cellOf hcl
      have K5 : Hid (Blk (w4.setCell ⟨G, j, none⟩ (.int .u32 (x : Int))) G 22 (us (pre ++ [x]) ++ List.replicate (n - (pre ++ [x]).length) (.int .u32 0))) := Lib.hid (by
        have h := hb4.set j (.int .u32 (x : Int))
        rw [us_put pre x (by rw [HPL.out]; exact HJN.out) HPL.out] at h
        exact h)
      have HXN := Lib.hid q
      have HTB := Lib.hid hf.2.1
      have HTL := Lib.hid htl
      have G5 := Lib.hid (grown_setCellN (GJ.out.trans hg4) HGB.out.2.1 j (.int .u32 (x : Int)))
      have LF5 := Lib.hid (hL4.other (show G ≠ B by have := HGB.out; omega) j (.int .u32 (x : Int)))
      have hz5 : Hid (G < (w4.setCell ⟨G, j, none⟩ (.int .u32 (x : Int))).heap.size) := Lib.hid K5.out.lt
      clear hg4 hok hno hx hf htl hb4 hcl q hL4 HR
      go_wp2
      go_roundw
      case rel => exact ⟨j + 1, pre ++ [x], t, by omega, by go_num, by rw [List.length_append, HPL.out]; rfl, HXN.out, HTB.out, HTL.out, G5.out, LF5.out, hz5.out, K5.out⟩
      case measure => simp [intOf]; omega
    · obtain rfl : j = n := by omega
      have q := HXJ.out
      rw [Nat.sub_self, addP_zero] at q
      subst q
      have LOF : Hid (OwnR wr w.heap.size 22 1 (.slice (some ⟨G, 0, none⟩) j j) (rowsU .u32 pre)) := Lib.hid (by
        have kd := KJ.out
        rw [HPL.out, Nat.sub_self, List.replicate_zero, List.append_nil, ← us_flat] at kd
        have h1 := own_blkK (rows := rowsU .u32 pre) (us_one pre) kd HGB.out.2.1 (by rw [us_rows, HPL.out]; have := HN40.out; exact Nat.le_trans this (by decide))
        rw [us_rows, HPL.out] at h1
        exact h1)
      clear hlt hj
      go_wp2
      go_ret
      exact StP.ok GJ.out LOF.out LFJ.out
end Go.Proofs.Ytloogjdojojehaa
namespace Go.Proofs.Ytloogjdojojehaa
open Go.RowKit
set_option linter.unusedVariables false

theorem grown_setCellsW (g : Nat) : ∀ (Z : List Value) (o : Nat) (w : World), w.grownBy (w.setCells g o Z) (some g)
  | [], _, w => ⟨rfl, rfl, rfl, Nat.le_refl _, fun _ _ _ => rfl⟩
  | x :: Z, o, w => (grown_setCell w ⟨g, o, none⟩ x).trans (grown_setCellsW g Z (o + 1) _)
theorem grown_rowW (w : World) (b : Nat) (cs : Array Value) : w.grownBy (w.setRow b cs) (some b) :=
  ⟨rfl, rfl, rfl, by simp, fun k hk hne => by rw [setRow_other w b k cs (fun e => hne (by rw [e]))]⟩
theorem own_but {w w' : World} {base B k : Nat} {e : TypeId} {v : Value} {rows : List (List Value)} (h : OwnR w base e k v rows) (hg : w.grownBy w' (some B)) (hB : B < base) : OwnR w' base e k v rows :=
  h.grownO hg fun b hb he => by
    have := (h.lt b hb).1
    cases he
    omega
/-- a reply, as it is read -/
def RO (w : World) (base : Nat) (R : List Value) (z : Nat × List Nat × VerH) : Prop :=
  ∃ vi q, R = .int .i64 (z.1 : Int) :: vi :: q ∧ OwnR w base 22 1 vi (rowsU .u32 z.2.1) ∧ VO w base (.agg q.toArray) (rawOf z.2.2)
section
variable {w w' : World} {base : Nat} {R : List Value} {z : Nat × List Nat × VerH}
theorem RO.keep (h : RO w base R z) (hb : Below w.heap.size w w') : RO w' base R z := by
  obtain ⟨vi, q, e, h1, h2⟩ := h
  exact ⟨vi, q, e, h1.keep hb, h2.keep hb⟩
theorem RO.but {B : Nat} (h : RO w base R z) (hg : w.grownBy w' (some B)) (hB : B < base) : RO w' base R z := by
  obtain ⟨vi, q, e, h1, h2⟩ := h
  exact ⟨vi, q, e, own_but h1 hg hB, h2.but hg hB⟩
theorem RO.lower (h : RO w base R z) {base' : Nat} (hb : base' ≤ base) : RO w base' R z := by
  obtain ⟨vi, q, e, h1, h2⟩ := h
  exact ⟨vi, q, e, h1.lower hb, h2.lower hb⟩
theorem RO.row (h : RO w base R z) {b : Nat} (hr : b < base) (cs : Array Value) : RO (w.setRow b cs) base R z := h.but (grown_rowW w b cs) hr
theorem RO.cells (h : RO w base R z) : R.length = 6 ∧ R.toArray.all (·.oneCell') = true := by
  obtain ⟨vi, q, rfl, h1, h2⟩ := h
  obtain ⟨p, c, rfl⟩ := h1.isSlice
  obtain ⟨pb, cb, pn, cn, pz, cz, rfl⟩ := h2.vv.row
  exact ⟨rfl, by simp [cellsV, Value.oneCell']⟩
end
/-- a message whose slices are the call's own -/
def MO (w : World) (base : Nat) (v : Value) (m : MsgU) : Prop :=
  ∃ vl vi q, v = .agg (cellsM m vl vi q).toArray ∧ LO w base vl m.log ∧ OwnR w base 22 1 vi (rowsU .u32 m.ids) ∧ VO w base (.agg q.toArray) m.ver ∧ m.hash.length = 32 ∧ Bys m.hash
section
variable {w w' : World} {base : Nat} {v : Value} {m : MsgU}
theorem MO.keep (h : MO w base v m) (hb : Below w.heap.size w w') : MO w' base v m := by
  obtain ⟨vl, vi, q, e, h1, h2, h3, h4⟩ := h
  exact ⟨vl, vi, q, e, h1.keep hb, h2.keep hb, h3.keep hb, h4⟩
theorem MO.but {B : Nat} (h : MO w base v m) (hg : w.grownBy w' (some B)) (hB : B < base) : MO w' base v m := by
  obtain ⟨vl, vi, q, e, h1, h2, h3, h4⟩ := h
  exact ⟨vl, vi, q, e, h1.but hg hB, own_but h2 hg hB, h3.but hg hB, h4⟩
theorem MO.lower (h : MO w base v m) {base' : Nat} (hb : base' ≤ base) : MO w base' v m := by
  obtain ⟨vl, vi, q, e, h1, h2, h3, h4⟩ := h
  exact ⟨vl, vi, q, e, h1.lower hb, h2.lower hb, h3.lower hb, h4⟩
theorem MO.row (h : MO w base v m) {b : Nat} (hr : b < base) (cs : Array Value) : MO (w.setRow b cs) base v m := h.but (grown_rowW w b cs) hr
theorem MO.told (h : MO w base v m) : MsgTold w v m := by
  obtain ⟨vl, vi, q, e, h1, h2, h3, h4, h5⟩ := h
  have hi := h2.isSlice
  rw [us_rows] at hi
  exact ⟨vl, vi, q, e, h1.slice, h1.told, hi, h2.sl, h3.vv, h4, h5⟩
end
theorem msg_cells {w : World} {v : Value} {m : MsgU} (h : MsgTold w v m) : ∃ R : List Value, v = .agg R.toArray ∧ R.length = 49 ∧ R.toArray.all (·.oneCell') = true := by
  obtain ⟨vl, vi, q, rfl, ⟨pl, cl, rfl⟩, _, ⟨pi, ci, rfl⟩, _, hv, h32, _⟩ := h
  obtain ⟨pb, cb, pn, cn, pz, cz, rfl⟩ := hv.row
  refine ⟨_, rfl, by simp [cellsM, cellsV, ints_length, nn_length, h32], ?_⟩
  have hi : ∀ x ∈ ints .u8 (nn m.hash), x.oneCell' = true := fun x hx => by
    have := ints_one .u8 (nn m.hash)
    rw [List.all_toArray, List.all_eq_true] at this
    exact this x hx
  rw [List.all_toArray, List.all_eq_true]
  intro x hx
  simp only [cellsM, cellsV, List.mem_append, List.mem_cons, List.not_mem_nil, or_false] at hx
  rcases hx with (rfl | rfl | rfl | rfl | rfl | rfl | rfl | rfl | rfl | rfl | rfl | rfl) | (rfl | rfl | rfl | rfl) | hx | rfl
  all_goals first | rfl | exact hi x hx
/-- a message's cells, its reply's together -/
def mC (k f t : Int) (v l : Nat) (n c : Int) (vl : Value) (cl : Int) (sq : Nat) (rp h : List Value) (b : ByteArray) : List Value :=
  [.int .i64 k, .int .i64 f, .int .i64 t, .int .u32 (v : Int), .int .u32 (l : Int), .int .i64 n, .int .i64 c, vl, .int .i64 cl, .int .u32 (sq : Int)] ++ (rp ++ (h ++ [.string b]))
theorem mC_last (k f t : Int) (v l : Nat) (n c : Int) (vl : Value) (cl : Int) (sq : Nat) {rp h : List Value} (b b' : ByteArray) (h6 : rp.length = 6) (h32 : h.length = 32) :
    (mC k f t v l n c vl cl sq rp h b)[48]? = some (.string b) ∧ (mC k f t v l n c vl cl sq rp h b).set 48 (.string b') = mC k f t v l n c vl cl sq rp h b' := by
  unfold mC
  generalize hX : ([.int .i64 k, .int .i64 f, .int .i64 t, .int .u32 (v : Int), .int .u32 (l : Int), .int .i64 n, .int .i64 c, vl, .int .i64 cl, .int .u32 (sq : Int)] : List Value) = X
  have hx : X.length = 10 := by rw [← hX]; rfl
  constructor
  · rw [List.getElem?_append_right (by omega), List.getElem?_append_right (by omega), List.getElem?_append_right (by omega), hx, h6, h32]
    rfl
  · rw [List.set_append_right _ _ (by omega), List.set_append_right _ _ (by omega), List.set_append_right _ _ (by omega), hx, h6, h32]
    rfl
def zR6 : List Value := .int .i64 0 :: .slice none 0 0 :: zV
def zH32 : List Value := ints .u8 (nn (zerN 32))
def zM : List Value := mC 0 0 0 0 0 0 0 (.slice none 0 0) 0 0 zR6 zH32 ⟨#[]⟩
theorem alloc_rep6 (w : World) : (Instr.alloc 32 true (.tuple #[])).run Try.prog w = .ok (.pointer (some ⟨w.heap.size, 0, none⟩)) (w.alloc (.cells zR6.toArray 32)) := by kernel_rfl
theorem alloc_msg (w : World) : (Instr.alloc 36 true (.tuple #[])).run Try.prog w = .ok (.pointer (some ⟨w.heap.size, 0, none⟩)) (w.alloc (.cells zM.toArray 36)) := by kernel_rfl
theorem size_msg : (Try.prog.info? 36).map (·.size) = some 49 := by kernel_rfl
/-- a reply is read so -/
def repK (s : List Nat) : Except Nat ((Nat × List Nat × VerH) × List Nat) :=
  thenP (fixP 2 s) fun e s1 => thenP (countB (fixP 4) 8 111 s1) fun l s2 => thenP (verP s2) fun v s3 => .ok ((e, l, v), s3)
/-- a message is read so, its reply at once -/
def msgK2 (s : List Nat) : Except Nat (MsgM × List Nat) :=
  thenP (fixP 1 s) fun a0 s0 => thenP (fixP 1 s0) fun a1 s1 => thenP (fixP 1 s1) fun a2 s2 => thenP (fixP 4 s2) fun a3 s3 => thenP (fixP 4 s3) fun a4 s4 => thenP (fixP 1 s4) fun a5 s5 => thenP (fixP 1 s5) fun a6 s6 =>
  thenP (countB reqP 40 111 s6) fun a7 s7 => thenP (fixP 1 s7) fun a8 s8 => thenP (fixP 4 s8) fun a9 s9 => thenP (repK s9) fun a10 s10 =>
  thenP (rawP 32 s10) fun a11 s11 => thenP (textP s11) fun a12 s12 => .ok (⟨a0, a1, a2, a3, a4, a5, a6, a7, a8, a9, a10.1, a10.2.1, a10.2.2, a11, a12⟩, s12)
theorem msgK2_is (s : List Nat) : msgK s = msgK2 s := by
  unfold msgK msgK2 repK
  simp only [then_then, then_ok]
theorem count_facts {α : Type} {p : List Nat → Except Nat (α × List Nat)} {enc : α → List Nat} {ok : α → Prop} (hc : Codes p enc ok) {most er : Nat} (hm : most < 256) {s : List Nat} {l : List α} {t : List Nat} (hs : Bys s) (h : countB p most er s = .ok (l, t)) :
    (l.length ≤ most ∧ ∀ x ∈ l, ok x) ∧ Bys t ∧ t.length ≤ s.length := by
  have hk := countB_codes hc most er hm
  have hf := hk.from_ s l t hs h
  have hl := congrArg List.length hf.2
  rw [List.length_append] at hl
  exact ⟨hf.1, hk.rest hs h, by omega⟩
theorem rep_facts {s t : List Nat} {z : Nat × List Nat × VerH} (hs : Bys s) (h : repK s = .ok (z, t)) : (z.1 < 65536 ∧ z.2.1.length ≤ 8 ∧ (∀ n ∈ z.2.1, n < 4294967296) ∧ VerOk z.2.2) ∧ Bys t ∧ t.length ≤ s.length := by
  unfold repK at h
  rcases h1 : fixP 2 s with e | ⟨a, s1⟩
  · rw [h1] at h; cases h
  rw [h1, then_ok] at h
  rcases h2 : countB (fixP 4) 8 111 s1 with e | ⟨l, s2⟩
  · rw [h2] at h; cases h
  rw [h2, then_ok] at h
  rcases h3 : verP s2 with e | ⟨v, s3⟩
  · rw [h3] at h; cases h
  rw [h3, then_ok] at h
  cases h
  have f1 := fix_facts hs h1
  have f2 := count_facts (fix_codes 4) (by decide) f1.2.1 h2
  have f3 := ver_facts f2.2.1 h3
  exact ⟨⟨Nat.lt_of_lt_of_le f1.1 (by decide), f2.1.1, fun n hn => Nat.lt_of_lt_of_le (f2.1.2 n hn) (by decide), f3.1⟩, f3.2.1, by have := f1.2.2; have := f2.2.2; have := f3.2.2; omega⟩
end Go.Proofs.Ytloogjdojojehaa
namespace Go.Proofs.Ytloogjdojojehaa
open Go.RowKit
set_option linter.unusedVariables false

set_option maxRecDepth 100000 in
set_option maxHeartbeats 8000000 in
theorem w_reply (B : Nat) (s0 : List Nat) (w : World) (hB : Left w B s0) (hs : Bys s0) (hl : s0.length ≤ 65536) :
    Calls Try.prog 53 #[.pointer (some ⟨B, 0, none⟩)] w (StP (repK s0) (fun a w' v => ∃ R : List Value, v = .agg R.toArray ∧ RO w' w.heap.size R a) w B) := by
  obtain ⟨X, hX⟩ : ∃ X, repK s0 = X := ⟨_, rfl⟩
  rw [hX]
  unfold repK at hX
  have HX0 := Lib.hid hX
  have r0 := RdW.start hB 32 zR6
  have HZ : Hid ((w.alloc (.cells zR6.toArray 32)).heap.size = w.heap.size + 1) := Lib.hid (by simp)
  obtain ⟨w0, hW⟩ : ∃ w0, (w.alloc (.cells zR6.toArray 32)).alloc (.cells zR6.toArray 32) = w0 := ⟨_, rfl⟩
  rw [hW] at r0
  have HW := Lib.hid hW
  have S0 := Lib.hid hs
  have L0 := Lib.hid hl
  have HB2 : Hid (B < w.heap.size + 2) := Lib.hid (by have := r0.lt; omega)
  have HM2 : Hid (w.heap.size + 1 < w.heap.size + 2) := Lib.hid (by omega)
  have R0 : Hid (RdW w B 32 zR6 w0 s0 (.int .i64 0 :: .slice none 0 0 :: zV)) := Lib.hid r0
  have HN0 : Hid (Calls Try.prog 69 #[.pointer (some ⟨B, 0, none⟩), .int .i64 2] w0 (StP (fixP 2 s0) (fun n _ v => v = .int .i64 (n : Int)) w0 B)) := Lib.hid (w_numE B 2 s0 _ R0.out.lf S0.out L0.out (by decide) (by decide))
  clear hB hX r0 hW hs hl
  go_enter Try.func53, Try.ntmps53
  go_wp2_with (first | (refine wpList_alloc_n rfl 32 rfl (w.heap.size + 1) HZ.out zR6.toArray (alloc_rep6 _) ?_; rw [HW.out]) | (refine wpList_alloc_n rfl 32 rfl w.heap.size rfl zR6.toArray (alloc_rep6 _) ?_))
  clear HZ HW
  refine HN0.out.mono ?_
  rintro e w1 ⟨hg, hok, hno⟩
  rcases hx : fixP 2 s0 with er | ⟨a0, s1⟩
  · obtain rfl := hno er hx
    have q := HX0.out
    rw [hx, then_err] at q
    subst q
    exact ⟨rfl, StP.no (R0.out.gr.trans hg)⟩
  obtain ⟨v0, rfl, hv, hL⟩ := hok a0 s1 hx
  have q := HX0.out
  rw [hx, then_ok] at q
  have HX1 := Lib.hid q
  have r1 := R0.out.step hg hL
  have F0 := Lib.hid (fix_facts S0.out hx)
  have S1 := Lib.hid (F0.out.2.1)
  have L1 : Hid (s1.length ≤ 65536) := Lib.hid (Nat.le_trans (F0.out.2.2) L0.out)
  subst hv
  have c0 := r1.cell (j := 0) (rfl)
  have f0 := r1.free 0
  have R1 : Hid (RdW w B 32 zR6 (w1.setCell ⟨w.heap.size + 1, 0, none⟩ (.int .i64 (a0 : Int))) s1 (.int .i64 (a0 : Int) :: .slice none 0 0 :: zV)) := Lib.hid (r1.put 0 (.int .i64 (a0 : Int)))
  have HN1 : Hid (Calls Try.prog 70 #[.pointer (some ⟨B, 0, none⟩), .int .i64 8, .func (.func 45) #[] #[]] (w1.setCell ⟨w.heap.size + 1, 0, none⟩ (.int .i64 (a0 : Int))) (StP (countB (fixP 4) 8 111 s1) (fun l w' v => OwnR w' (w1.setCell ⟨w.heap.size + 1, 0, none⟩ (.int .i64 (a0 : Int))).heap.size 22 1 v (rowsU .u32 l)) (w1.setCell ⟨w.heap.size + 1, 0, none⟩ (.int .i64 (a0 : Int))) B)) := Lib.hid (w_manyId B s1 _ R1.out.lf S1.out L1.out)
  clear q r1 hg hok hno hx hL HN0 HX0
  go_wp2_with fail
  clear R0 c0 f0
  refine HN1.out.mono ?_
  rintro e w2 ⟨hg, hok, hno⟩
  rcases hx : countB (fixP 4) 8 111 s1 with er | ⟨a1, s2⟩
  · obtain rfl := hno er hx
    have q := HX1.out
    rw [hx, then_err] at q
    subst q
    exact ⟨rfl, StP.no (R1.out.gr.trans hg)⟩
  obtain ⟨v1, rfl, hv, hL⟩ := hok a1 s2 hx
  have q := HX1.out
  rw [hx, then_ok] at q
  have HX2 := Lib.hid q
  have r1 := R1.out.step hg hL
  have F1 := Lib.hid (count_facts (fix_codes 4) (by decide) S1.out hx)
  have S2 := Lib.hid (F1.out.2.1)
  have L2 : Hid (s2.length ≤ 65536) := Lib.hid (Nat.le_trans (F1.out.2.2) L1.out)
  obtain ⟨sp1, sn1, sc1, rfl⟩ : ∃ p n c, v1 = .slice p n c := by
    obtain ⟨p, c, e⟩ := hv.isSlice
    exact ⟨_, _, _, e⟩
  have c1 := r1.cell (j := 1) (rfl)
  have f1 := r1.free 1
  have R2 : Hid (RdW w B 32 zR6 (w2.setCell ⟨w.heap.size + 1, 1, none⟩ ((.slice sp1 sn1 sc1))) s2 (.int .i64 (a0 : Int) :: (.slice sp1 sn1 sc1) :: zV)) := Lib.hid (r1.put 1 ((.slice sp1 sn1 sc1)))
  have OI2 := Lib.hid (own_but (hv.lower R1.out.size) (grown_setCell w2 ⟨w.heap.size + 1, 1, none⟩ ((.slice sp1 sn1 sc1))) HM2.out)
  have HN2 : Hid (Calls Try.prog 46 #[.pointer (some ⟨B, 0, none⟩)] (w2.setCell ⟨w.heap.size + 1, 1, none⟩ ((.slice sp1 sn1 sc1))) (StP (verP s2) (fun a w' v => VO w' (w2.setCell ⟨w.heap.size + 1, 1, none⟩ ((.slice sp1 sn1 sc1))).heap.size v (rawOf a)) (w2.setCell ⟨w.heap.size + 1, 1, none⟩ ((.slice sp1 sn1 sc1))) B)) := Lib.hid (w_version B s2 _ R2.out.lf S2.out L2.out)
  clear q r1 hg hok hno hx hL HN1 HX1 hv
  go_wp2_with fail
  clear R1 c1 f1
  refine HN2.out.mono ?_
  rintro e w3 ⟨hg, hok, hno⟩
  rcases hx : verP s2 with er | ⟨a2, s3⟩
  · obtain rfl := hno er hx
    have q := HX2.out
    rw [hx, then_err] at q
    subst q
    exact ⟨rfl, StP.no (R2.out.gr.trans hg)⟩
  obtain ⟨v2, rfl, hv, hL⟩ := hok a2 s3 hx
  have q := HX2.out
  rw [hx, then_ok] at q
  have HX3 := Lib.hid q
  have r1 := R2.out.step hg hL
  have F2 := Lib.hid (ver_facts S2.out hx)
  have S3 := Lib.hid (F2.out.2.1)
  have L3 : Hid (s3.length ≤ 65536) := Lib.hid (Nat.le_trans (F2.out.2.2) L2.out)
  obtain ⟨C2, rfl, hC4, hC1⟩ := VO.cells hv
  have HL2 := Lib.hid hC4
  have HO2 := Lib.hid hC1
  clear hC4 hC1
  have RP2 : Hid (RdW w B 32 zR6 w3 s3 ([.int .i64 (a0 : Int), (.slice sp1 sn1 sc1)] ++ (zV ++ ([])))) := Lib.hid r1
  have HXL2 : Hid (2 = ([.int .i64 (a0 : Int), (.slice sp1 sn1 sc1)] : List Value).length) := Lib.hid (rfl)
  have R3 : Hid (RdW w B 32 zR6 (w3.setCells (w.heap.size + 1) 2 C2) s3 ([.int .i64 (a0 : Int), (.slice sp1 sn1 sc1)] ++ (C2 ++ []))) := Lib.hid (by
    have q := RP2.out.part (y' := C2) (by rw [HL2.out]; rfl)
    rw [← HXL2.out] at q
    exact q)
  have OI3 := Lib.hid (own_but (own_but OI2.out hg HB2.out) (grown_setCellsW (w.heap.size + 1) C2 2 w3) HM2.out)
  have OV3 := Lib.hid (VO.but (hv.lower R2.out.size) (grown_setCellsW (w.heap.size + 1) C2 2 w3) HM2.out)
  have q := HX3.out
  subst q
  have fin := (show ([Value.int .i64 (a0 : Int), (Value.slice sp1 sn1 sc1)] ++ (C2 ++ [])).length = 6 ∧ ([Value.int .i64 (a0 : Int), (Value.slice sp1 sn1 sc1)] ++ (C2 ++ [])).toArray.all (·.oneCell') = true ∧ ∀ cs : Array Value, (∃ R : List Value, Value.agg ([Value.int .i64 (a0 : Int), (Value.slice sp1 sn1 sc1)] ++ (C2 ++ [])).toArray = .agg R.toArray ∧ RO ((w3.setCells (w.heap.size + 1) 2 C2).setRow w.heap.size cs) w.heap.size R (a0, a1, a2)) from by
    have ro : RO (w3.setCells (w.heap.size + 1) 2 C2) (w.heap.size + 2) ([Value.int .i64 (a0 : Int), (Value.slice sp1 sn1 sc1)] ++ (C2 ++ [])) (a0, a1, a2) := ⟨(.slice sp1 sn1 sc1), C2, by rw [List.append_nil]; rfl, OI3.out, OV3.out⟩
    exact ⟨ro.cells.1, ro.cells.2, fun cs => ⟨_, rfl, (ro.row (show w.heap.size < w.heap.size + 2 by omega) cs).lower (by omega)⟩⟩)
  obtain ⟨CS, hCS⟩ : ∃ CS, [.int .i64 (a0 : Int), (.slice sp1 sn1 sc1)] ++ (C2 ++ []) = CS := ⟨_, rfl⟩
  have R3' : Hid (RdW w B 32 zR6 (w3.setCells (w.heap.size + 1) 2 C2) s3 CS) := Lib.hid (by rw [← hCS]; exact R3.out)
  rw [hCS] at fin
  have HCL := Lib.hid fin.1
  have HCO := Lib.hid fin.2.1
  have ff := R3'.out.fin CS.toArray
  have GF := Lib.hid ff.1
  have LF := Lib.hid ff.2
  have QF := Lib.hid (fin.2.2 CS.toArray)
  have KN := Lib.hid R3'.out.kn
  have KM := Lib.hid R3'.out.km
  clear q r1 hg hok hno hx hL HN2 HX2 hv ff fin hCS
  go_wp2_with (first | (refine wpList_store_part rfl 30 _ _ rfl (w.heap.size + 1) 2 rfl C2 rfl ([.int .i64 (a0 : Int), (.slice sp1 sn1 sc1)]) (zV) ([]) RP2.out.km HXL2.out (by rw [HL2.out]; rfl) (by rw [size_ver, HL2.out]) HO2.out ?_; rintro wq - - hwq; subst hwq) | (refine wpList_load_blkW rfl 32 _ rfl (w.heap.size + 1) rfl KM.out Try.underlying32 rfl (by rw [size_rep, HCL.out]) ?_) | (refine wpList_store_blk rfl 32 _ _ rfl w.heap.size CS rfl rfl KN.out (by rw [size_rep, HCL.out]) (by rw [HCL.out]; rfl) HCO.out ?_))
  refine bodyPost_ret (v := .agg CS.toArray) (results_cell_blk rfl _ _ _ rfl (KN.out.row CS (by rw [HCL.out]; rfl)) Try.underlying32 rfl (by rw [size_rep, HCL.out])) rfl (StP.ok GF.out QF.out LF.out)
end Go.Proofs.Ytloogjdojojehaa
namespace Go.Proofs.Ytloogjdojojehaa
open Go.RowKit
set_option linter.unusedVariables false

set_option maxRecDepth 100000 in
set_option maxHeartbeats 8000000 in
theorem w_msg (B : Nat) (s0 : List Nat) (w : World) (hB : Left w B s0) (hs : Bys s0) (hl : s0.length ≤ 65536) :
    Calls Try.prog 27 #[.pointer (some ⟨B, 0, none⟩)] w (StP (msgK2 s0) (fun a w' v => MO w' w.heap.size v (msgU a)) w B) := by
  obtain ⟨X, hX⟩ : ∃ X, msgK2 s0 = X := ⟨_, rfl⟩
  rw [hX]
  unfold msgK2 at hX
  have HX0 := Lib.hid hX
  have r0 := RdW.start hB 36 zM
  have HZ : Hid ((w.alloc (.cells zM.toArray 36)).heap.size = w.heap.size + 1) := Lib.hid (by simp)
  obtain ⟨w0, hW⟩ : ∃ w0, (w.alloc (.cells zM.toArray 36)).alloc (.cells zM.toArray 36) = w0 := ⟨_, rfl⟩
  rw [hW] at r0
  have HW := Lib.hid hW
  have S0 := Lib.hid hs
  have L0 := Lib.hid hl
  have HB2 : Hid (B < w.heap.size + 2) := Lib.hid (by have := r0.lt; omega)
  have HM2 : Hid (w.heap.size + 1 < w.heap.size + 2) := Lib.hid (by omega)
  have R0 : Hid (RdW w B 36 zM w0 s0 (mC 0 0 0 0 0 0 0 (.slice none 0 0) 0 0 zR6 zH32 ⟨#[]⟩)) := Lib.hid r0
  have HN0 : Hid (Calls Try.prog 43 #[.pointer (some ⟨B, 0, none⟩), .int .i64 1] w0 (StP (fixP 1 s0) (fun n _ v => v = .int .i64 (n : Int)) w0 B)) := Lib.hid (w_numI B 1 s0 _ R0.out.lf S0.out L0.out (by decide) (by decide))
  clear hB hX r0 hW hs hl
  go_enter Try.func27, Try.ntmps27
  go_wp2_with (first | (refine wpList_alloc_n rfl 36 rfl (w.heap.size + 1) HZ.out zM.toArray (alloc_msg _) ?_; rw [HW.out]) | (refine wpList_alloc_n rfl 36 rfl w.heap.size rfl zM.toArray (alloc_msg _) ?_))
  clear HZ HW
  refine HN0.out.mono ?_
  rintro e w1 ⟨hg, hok, hno⟩
  rcases hx : fixP 1 s0 with er | ⟨a0, s1⟩
  · obtain rfl := hno er hx
    have q := HX0.out
    rw [hx, then_err] at q
    subst q
    exact ⟨rfl, StP.no (R0.out.gr.trans hg)⟩
  obtain ⟨v0, rfl, hv, hL⟩ := hok a0 s1 hx
  have q := HX0.out
  rw [hx, then_ok] at q
  have HX1 := Lib.hid q
  have r1 := R0.out.step hg hL
  have F0 := Lib.hid (fix_facts S0.out hx)
  have S1 := Lib.hid (F0.out.2.1)
  have L1 : Hid (s1.length ≤ 65536) := Lib.hid (Nat.le_trans (F0.out.2.2) L0.out)
  subst hv
  have c0 := r1.cell (j := 0) (rfl)
  have f0 := r1.free 0
  have R1 : Hid (RdW w B 36 zM (w1.setCell ⟨w.heap.size + 1, 0, none⟩ (.int .i64 (a0 : Int))) s1 (mC (a0 : Int) 0 0 0 0 0 0 (.slice none 0 0) 0 0 zR6 zH32 ⟨#[]⟩)) := Lib.hid (r1.put 0 (.int .i64 (a0 : Int)))
  have HN1 : Hid (Calls Try.prog 43 #[.pointer (some ⟨B, 0, none⟩), .int .i64 1] (w1.setCell ⟨w.heap.size + 1, 0, none⟩ (.int .i64 (a0 : Int))) (StP (fixP 1 s1) (fun n _ v => v = .int .i64 (n : Int)) (w1.setCell ⟨w.heap.size + 1, 0, none⟩ (.int .i64 (a0 : Int))) B)) := Lib.hid (w_numI B 1 s1 _ R1.out.lf S1.out L1.out (by decide) (by decide))
  clear q r1 hg hok hno hx hL HN0 HX0
  go_wp2_with fail
  clear R0 c0 f0
  refine HN1.out.mono ?_
  rintro e w2 ⟨hg, hok, hno⟩
  rcases hx : fixP 1 s1 with er | ⟨a1, s2⟩
  · obtain rfl := hno er hx
    have q := HX1.out
    rw [hx, then_err] at q
    subst q
    exact ⟨rfl, StP.no (R1.out.gr.trans hg)⟩
  obtain ⟨v1, rfl, hv, hL⟩ := hok a1 s2 hx
  have q := HX1.out
  rw [hx, then_ok] at q
  have HX2 := Lib.hid q
  have r1 := R1.out.step hg hL
  have F1 := Lib.hid (fix_facts S1.out hx)
  have S2 := Lib.hid (F1.out.2.1)
  have L2 : Hid (s2.length ≤ 65536) := Lib.hid (Nat.le_trans (F1.out.2.2) L1.out)
  subst hv
  have c1 := r1.cell (j := 1) (rfl)
  have f1 := r1.free 1
  have R2 : Hid (RdW w B 36 zM (w2.setCell ⟨w.heap.size + 1, 1, none⟩ (.int .i64 (a1 : Int))) s2 (mC (a0 : Int) (a1 : Int) 0 0 0 0 0 (.slice none 0 0) 0 0 zR6 zH32 ⟨#[]⟩)) := Lib.hid (r1.put 1 (.int .i64 (a1 : Int)))
  have HN2 : Hid (Calls Try.prog 43 #[.pointer (some ⟨B, 0, none⟩), .int .i64 1] (w2.setCell ⟨w.heap.size + 1, 1, none⟩ (.int .i64 (a1 : Int))) (StP (fixP 1 s2) (fun n _ v => v = .int .i64 (n : Int)) (w2.setCell ⟨w.heap.size + 1, 1, none⟩ (.int .i64 (a1 : Int))) B)) := Lib.hid (w_numI B 1 s2 _ R2.out.lf S2.out L2.out (by decide) (by decide))
  clear q r1 hg hok hno hx hL HN1 HX1
  go_wp2_with fail
  clear R1 c1 f1
  refine HN2.out.mono ?_
  rintro e w3 ⟨hg, hok, hno⟩
  rcases hx : fixP 1 s2 with er | ⟨a2, s3⟩
  · obtain rfl := hno er hx
    have q := HX2.out
    rw [hx, then_err] at q
    subst q
    exact ⟨rfl, StP.no (R2.out.gr.trans hg)⟩
  obtain ⟨v2, rfl, hv, hL⟩ := hok a2 s3 hx
  have q := HX2.out
  rw [hx, then_ok] at q
  have HX3 := Lib.hid q
  have r1 := R2.out.step hg hL
  have F2 := Lib.hid (fix_facts S2.out hx)
  have S3 := Lib.hid (F2.out.2.1)
  have L3 : Hid (s3.length ≤ 65536) := Lib.hid (Nat.le_trans (F2.out.2.2) L2.out)
  subst hv
  have c2 := r1.cell (j := 2) (rfl)
  have f2 := r1.free 2
  have R3 : Hid (RdW w B 36 zM (w3.setCell ⟨w.heap.size + 1, 2, none⟩ (.int .i64 (a2 : Int))) s3 (mC (a0 : Int) (a1 : Int) (a2 : Int) 0 0 0 0 (.slice none 0 0) 0 0 zR6 zH32 ⟨#[]⟩)) := Lib.hid (r1.put 2 (.int .i64 (a2 : Int)))
  have HN3 : Hid (Calls Try.prog 44 #[.pointer (some ⟨B, 0, none⟩), .int .i64 4] (w3.setCell ⟨w.heap.size + 1, 2, none⟩ (.int .i64 (a2 : Int))) (StP (fixP 4 s3) (fun n _ v => v = .int .u32 (n : Int)) (w3.setCell ⟨w.heap.size + 1, 2, none⟩ (.int .i64 (a2 : Int))) B)) := Lib.hid (w_numU B 4 s3 _ R3.out.lf S3.out L3.out (by decide) (by decide))
  clear q r1 hg hok hno hx hL HN2 HX2
  go_wp2_with fail
  clear R2 c2 f2
  refine HN3.out.mono ?_
  rintro e w4 ⟨hg, hok, hno⟩
  rcases hx : fixP 4 s3 with er | ⟨a3, s4⟩
  · obtain rfl := hno er hx
    have q := HX3.out
    rw [hx, then_err] at q
    subst q
    exact ⟨rfl, StP.no (R3.out.gr.trans hg)⟩
  obtain ⟨v3, rfl, hv, hL⟩ := hok a3 s4 hx
  have q := HX3.out
  rw [hx, then_ok] at q
  have HX4 := Lib.hid q
  have r1 := R3.out.step hg hL
  have F3 := Lib.hid (fix_facts S3.out hx)
  have S4 := Lib.hid (F3.out.2.1)
  have L4 : Hid (s4.length ≤ 65536) := Lib.hid (Nat.le_trans (F3.out.2.2) L3.out)
  subst hv
  have c3 := r1.cell (j := 3) (rfl)
  have f3 := r1.free 3
  have R4 : Hid (RdW w B 36 zM (w4.setCell ⟨w.heap.size + 1, 3, none⟩ (.int .u32 (a3 : Int))) s4 (mC (a0 : Int) (a1 : Int) (a2 : Int) a3 0 0 0 (.slice none 0 0) 0 0 zR6 zH32 ⟨#[]⟩)) := Lib.hid (r1.put 3 (.int .u32 (a3 : Int)))
  have HN4 : Hid (Calls Try.prog 44 #[.pointer (some ⟨B, 0, none⟩), .int .i64 4] (w4.setCell ⟨w.heap.size + 1, 3, none⟩ (.int .u32 (a3 : Int))) (StP (fixP 4 s4) (fun n _ v => v = .int .u32 (n : Int)) (w4.setCell ⟨w.heap.size + 1, 3, none⟩ (.int .u32 (a3 : Int))) B)) := Lib.hid (w_numU B 4 s4 _ R4.out.lf S4.out L4.out (by decide) (by decide))
  clear q r1 hg hok hno hx hL HN3 HX3
  go_wp2_with fail
  clear R3 c3 f3
  refine HN4.out.mono ?_
  rintro e w5 ⟨hg, hok, hno⟩
  rcases hx : fixP 4 s4 with er | ⟨a4, s5⟩
  · obtain rfl := hno er hx
    have q := HX4.out
    rw [hx, then_err] at q
    subst q
    exact ⟨rfl, StP.no (R4.out.gr.trans hg)⟩
  obtain ⟨v4, rfl, hv, hL⟩ := hok a4 s5 hx
  have q := HX4.out
  rw [hx, then_ok] at q
  have HX5 := Lib.hid q
  have r1 := R4.out.step hg hL
  have F4 := Lib.hid (fix_facts S4.out hx)
  have S5 := Lib.hid (F4.out.2.1)
  have L5 : Hid (s5.length ≤ 65536) := Lib.hid (Nat.le_trans (F4.out.2.2) L4.out)
  subst hv
  have c4 := r1.cell (j := 4) (rfl)
  have f4 := r1.free 4
  have R5 : Hid (RdW w B 36 zM (w5.setCell ⟨w.heap.size + 1, 4, none⟩ (.int .u32 (a4 : Int))) s5 (mC (a0 : Int) (a1 : Int) (a2 : Int) a3 a4 0 0 (.slice none 0 0) 0 0 zR6 zH32 ⟨#[]⟩)) := Lib.hid (r1.put 4 (.int .u32 (a4 : Int)))
  have HN5 : Hid (Calls Try.prog 43 #[.pointer (some ⟨B, 0, none⟩), .int .i64 1] (w5.setCell ⟨w.heap.size + 1, 4, none⟩ (.int .u32 (a4 : Int))) (StP (fixP 1 s5) (fun n _ v => v = .int .i64 (n : Int)) (w5.setCell ⟨w.heap.size + 1, 4, none⟩ (.int .u32 (a4 : Int))) B)) := Lib.hid (w_numI B 1 s5 _ R5.out.lf S5.out L5.out (by decide) (by decide))
  clear q r1 hg hok hno hx hL HN4 HX4
  go_wp2_with fail
  clear R4 c4 f4
  refine HN5.out.mono ?_
  rintro e w6 ⟨hg, hok, hno⟩
  rcases hx : fixP 1 s5 with er | ⟨a5, s6⟩
  · obtain rfl := hno er hx
    have q := HX5.out
    rw [hx, then_err] at q
    subst q
    exact ⟨rfl, StP.no (R5.out.gr.trans hg)⟩
  obtain ⟨v5, rfl, hv, hL⟩ := hok a5 s6 hx
  have q := HX5.out
  rw [hx, then_ok] at q
  have HX6 := Lib.hid q
  have r1 := R5.out.step hg hL
  have F5 := Lib.hid (fix_facts S5.out hx)
  have S6 := Lib.hid (F5.out.2.1)
  have L6 : Hid (s6.length ≤ 65536) := Lib.hid (Nat.le_trans (F5.out.2.2) L5.out)
  subst hv
  have c5 := r1.cell (j := 5) (rfl)
  have f5 := r1.free 5
  have R6 : Hid (RdW w B 36 zM (w6.setCell ⟨w.heap.size + 1, 5, none⟩ (.int .i64 (a5 : Int))) s6 (mC (a0 : Int) (a1 : Int) (a2 : Int) a3 a4 (a5 : Int) 0 (.slice none 0 0) 0 0 zR6 zH32 ⟨#[]⟩)) := Lib.hid (r1.put 5 (.int .i64 (a5 : Int)))
  have HN6 : Hid (Calls Try.prog 43 #[.pointer (some ⟨B, 0, none⟩), .int .i64 1] (w6.setCell ⟨w.heap.size + 1, 5, none⟩ (.int .i64 (a5 : Int))) (StP (fixP 1 s6) (fun n _ v => v = .int .i64 (n : Int)) (w6.setCell ⟨w.heap.size + 1, 5, none⟩ (.int .i64 (a5 : Int))) B)) := Lib.hid (w_numI B 1 s6 _ R6.out.lf S6.out L6.out (by decide) (by decide))
  clear q r1 hg hok hno hx hL HN5 HX5
  go_wp2_with fail
  clear R5 c5 f5
  refine HN6.out.mono ?_
  rintro e w7 ⟨hg, hok, hno⟩
  rcases hx : fixP 1 s6 with er | ⟨a6, s7⟩
  · obtain rfl := hno er hx
    have q := HX6.out
    rw [hx, then_err] at q
    subst q
    exact ⟨rfl, StP.no (R6.out.gr.trans hg)⟩
  obtain ⟨v6, rfl, hv, hL⟩ := hok a6 s7 hx
  have q := HX6.out
  rw [hx, then_ok] at q
  have HX7 := Lib.hid q
  have r1 := R6.out.step hg hL
  have F6 := Lib.hid (fix_facts S6.out hx)
  have S7 := Lib.hid (F6.out.2.1)
  have L7 : Hid (s7.length ≤ 65536) := Lib.hid (Nat.le_trans (F6.out.2.2) L6.out)
  subst hv
  have c6 := r1.cell (j := 6) (rfl)
  have f6 := r1.free 6
  have R7 : Hid (RdW w B 36 zM (w7.setCell ⟨w.heap.size + 1, 6, none⟩ (.int .i64 (a6 : Int))) s7 (mC (a0 : Int) (a1 : Int) (a2 : Int) a3 a4 (a5 : Int) (a6 : Int) (.slice none 0 0) 0 0 zR6 zH32 ⟨#[]⟩)) := Lib.hid (r1.put 6 (.int .i64 (a6 : Int)))
  have HN7 : Hid (Calls Try.prog 52 #[.pointer (some ⟨B, 0, none⟩), .int .i64 40, .func (.func 22) #[] #[]] (w7.setCell ⟨w.heap.size + 1, 6, none⟩ (.int .i64 (a6 : Int))) (StP (countB reqP 40 111 s7) (fun l w' v => LO w' (w7.setCell ⟨w.heap.size + 1, 6, none⟩ (.int .i64 (a6 : Int))).heap.size v (l.map reqU)) (w7.setCell ⟨w.heap.size + 1, 6, none⟩ (.int .i64 (a6 : Int))) B)) := Lib.hid (w_manyReq B s7 _ R7.out.lf S7.out L7.out)
  clear q r1 hg hok hno hx hL HN6 HX6
  go_wp2_with fail
  clear R6 c6 f6
  refine HN7.out.mono ?_
  rintro e w8 ⟨hg, hok, hno⟩
  rcases hx : countB reqP 40 111 s7 with er | ⟨a7, s8⟩
  · obtain rfl := hno er hx
    have q := HX7.out
    rw [hx, then_err] at q
    subst q
    exact ⟨rfl, StP.no (R7.out.gr.trans hg)⟩
  obtain ⟨v7, rfl, hv, hL⟩ := hok a7 s8 hx
  have q := HX7.out
  rw [hx, then_ok] at q
  have HX8 := Lib.hid q
  have r1 := R7.out.step hg hL
  have F7 := Lib.hid (count_facts req_codes (by decide) S7.out hx)
  have S8 := Lib.hid (F7.out.2.1)
  have L8 : Hid (s8.length ≤ 65536) := Lib.hid (Nat.le_trans (F7.out.2.2) L7.out)
  obtain ⟨sp7, sn7, sc7, rfl⟩ : ∃ p n c, v7 = .slice p n c := by
    obtain ⟨p, c, e⟩ := hv.slice
    exact ⟨_, _, _, e⟩
  have c7 := r1.cell (j := 7) (rfl)
  have f7 := r1.free 7
  have R8 : Hid (RdW w B 36 zM (w8.setCell ⟨w.heap.size + 1, 7, none⟩ ((.slice sp7 sn7 sc7))) s8 (mC (a0 : Int) (a1 : Int) (a2 : Int) a3 a4 (a5 : Int) (a6 : Int) (.slice sp7 sn7 sc7) 0 0 zR6 zH32 ⟨#[]⟩)) := Lib.hid (r1.put 7 ((.slice sp7 sn7 sc7)))
  have OL8 := Lib.hid (LO.but (hv.lower R7.out.size) (grown_setCell w8 ⟨w.heap.size + 1, 7, none⟩ ((.slice sp7 sn7 sc7))) HM2.out)
  have HN8 : Hid (Calls Try.prog 43 #[.pointer (some ⟨B, 0, none⟩), .int .i64 1] (w8.setCell ⟨w.heap.size + 1, 7, none⟩ ((.slice sp7 sn7 sc7))) (StP (fixP 1 s8) (fun n _ v => v = .int .i64 (n : Int)) (w8.setCell ⟨w.heap.size + 1, 7, none⟩ ((.slice sp7 sn7 sc7))) B)) := Lib.hid (w_numI B 1 s8 _ R8.out.lf S8.out L8.out (by decide) (by decide))
  clear q r1 hg hok hno hx hL HN7 HX7 hv
  go_wp2_with fail
  clear R7 c7 f7
  refine HN8.out.mono ?_
  rintro e w9 ⟨hg, hok, hno⟩
  rcases hx : fixP 1 s8 with er | ⟨a8, s9⟩
  · obtain rfl := hno er hx
    have q := HX8.out
    rw [hx, then_err] at q
    subst q
    exact ⟨rfl, StP.no (R8.out.gr.trans hg)⟩
  obtain ⟨v8, rfl, hv, hL⟩ := hok a8 s9 hx
  have q := HX8.out
  rw [hx, then_ok] at q
  have HX9 := Lib.hid q
  have r1 := R8.out.step hg hL
  have F8 := Lib.hid (fix_facts S8.out hx)
  have S9 := Lib.hid (F8.out.2.1)
  have L9 : Hid (s9.length ≤ 65536) := Lib.hid (Nat.le_trans (F8.out.2.2) L8.out)
  subst hv
  have c8 := r1.cell (j := 8) (rfl)
  have f8 := r1.free 8
  have R9 : Hid (RdW w B 36 zM (w9.setCell ⟨w.heap.size + 1, 8, none⟩ (.int .i64 (a8 : Int))) s9 (mC (a0 : Int) (a1 : Int) (a2 : Int) a3 a4 (a5 : Int) (a6 : Int) (.slice sp7 sn7 sc7) (a8 : Int) 0 zR6 zH32 ⟨#[]⟩)) := Lib.hid (r1.put 8 (.int .i64 (a8 : Int)))
  have OL9 := Lib.hid (LO.but (LO.but OL8.out hg HB2.out) (grown_setCell w9 ⟨w.heap.size + 1, 8, none⟩ (.int .i64 (a8 : Int))) HM2.out)
  have HN9 : Hid (Calls Try.prog 44 #[.pointer (some ⟨B, 0, none⟩), .int .i64 4] (w9.setCell ⟨w.heap.size + 1, 8, none⟩ (.int .i64 (a8 : Int))) (StP (fixP 4 s9) (fun n _ v => v = .int .u32 (n : Int)) (w9.setCell ⟨w.heap.size + 1, 8, none⟩ (.int .i64 (a8 : Int))) B)) := Lib.hid (w_numU B 4 s9 _ R9.out.lf S9.out L9.out (by decide) (by decide))
  clear q r1 hg hok hno hx hL HN8 HX8
  go_wp2_with fail
  clear R8 c8 f8
  refine HN9.out.mono ?_
  rintro e w10 ⟨hg, hok, hno⟩
  rcases hx : fixP 4 s9 with er | ⟨a9, s10⟩
  · obtain rfl := hno er hx
    have q := HX9.out
    rw [hx, then_err] at q
    subst q
    exact ⟨rfl, StP.no (R9.out.gr.trans hg)⟩
  obtain ⟨v9, rfl, hv, hL⟩ := hok a9 s10 hx
  have q := HX9.out
  rw [hx, then_ok] at q
  have HX10 := Lib.hid q
  have r1 := R9.out.step hg hL
  have F9 := Lib.hid (fix_facts S9.out hx)
  have S10 := Lib.hid (F9.out.2.1)
  have L10 : Hid (s10.length ≤ 65536) := Lib.hid (Nat.le_trans (F9.out.2.2) L9.out)
  subst hv
  have c9 := r1.cell (j := 9) (rfl)
  have f9 := r1.free 9
  have R10 : Hid (RdW w B 36 zM (w10.setCell ⟨w.heap.size + 1, 9, none⟩ (.int .u32 (a9 : Int))) s10 (mC (a0 : Int) (a1 : Int) (a2 : Int) a3 a4 (a5 : Int) (a6 : Int) (.slice sp7 sn7 sc7) (a8 : Int) a9 zR6 zH32 ⟨#[]⟩)) := Lib.hid (r1.put 9 (.int .u32 (a9 : Int)))
  have OL10 := Lib.hid (LO.but (LO.but OL9.out hg HB2.out) (grown_setCell w10 ⟨w.heap.size + 1, 9, none⟩ (.int .u32 (a9 : Int))) HM2.out)
  have HN10 : Hid (Calls Try.prog 53 #[.pointer (some ⟨B, 0, none⟩)] (w10.setCell ⟨w.heap.size + 1, 9, none⟩ (.int .u32 (a9 : Int))) (StP (repK s10) (fun a w' v => ∃ R : List Value, v = .agg R.toArray ∧ RO w' (w10.setCell ⟨w.heap.size + 1, 9, none⟩ (.int .u32 (a9 : Int))).heap.size R a) (w10.setCell ⟨w.heap.size + 1, 9, none⟩ (.int .u32 (a9 : Int))) B)) := Lib.hid (w_reply B s10 _ R10.out.lf S10.out L10.out)
  clear q r1 hg hok hno hx hL HN9 HX9
  go_wp2_with fail
  clear R9 c9 f9
  refine HN10.out.mono ?_
  rintro e w11 ⟨hg, hok, hno⟩
  rcases hx : repK s10 with er | ⟨a10, s11⟩
  · obtain rfl := hno er hx
    have q := HX10.out
    rw [hx, then_err] at q
    subst q
    exact ⟨rfl, StP.no (R10.out.gr.trans hg)⟩
  obtain ⟨v10, rfl, hv, hL⟩ := hok a10 s11 hx
  have q := HX10.out
  rw [hx, then_ok] at q
  have HX11 := Lib.hid q
  have r1 := R10.out.step hg hL
  have F10 := Lib.hid (rep_facts S10.out hx)
  have S11 := Lib.hid (F10.out.2.1)
  have L11 : Hid (s11.length ≤ 65536) := Lib.hid (Nat.le_trans (F10.out.2.2) L10.out)
  obtain ⟨C10, rfl, hv⟩ := hv
  have HL10 := Lib.hid hv.cells.1
  have HO10 := Lib.hid hv.cells.2
  have RP10 : Hid (RdW w B 36 zM w11 s11 ([.int .i64 (a0 : Int), .int .i64 (a1 : Int), .int .i64 (a2 : Int), .int .u32 (a3 : Int), .int .u32 (a4 : Int), .int .i64 (a5 : Int), .int .i64 (a6 : Int), (.slice sp7 sn7 sc7), .int .i64 (a8 : Int), .int .u32 (a9 : Int)] ++ (zR6 ++ (zH32 ++ [.string ⟨#[]⟩])))) := Lib.hid r1
  have HXL10 : Hid (10 = ([.int .i64 (a0 : Int), .int .i64 (a1 : Int), .int .i64 (a2 : Int), .int .u32 (a3 : Int), .int .u32 (a4 : Int), .int .i64 (a5 : Int), .int .i64 (a6 : Int), (.slice sp7 sn7 sc7), .int .i64 (a8 : Int), .int .u32 (a9 : Int)] : List Value).length) := Lib.hid (rfl)
  have R11 : Hid (RdW w B 36 zM (w11.setCells (w.heap.size + 1) 10 C10) s11 (mC (a0 : Int) (a1 : Int) (a2 : Int) a3 a4 (a5 : Int) (a6 : Int) (.slice sp7 sn7 sc7) (a8 : Int) a9 C10 zH32 ⟨#[]⟩)) := Lib.hid (by
    have q := RP10.out.part (y' := C10) (by rw [HL10.out]; rfl)
    rw [← HXL10.out] at q
    exact q)
  have OL11 := Lib.hid (LO.but (LO.but OL10.out hg HB2.out) (grown_setCellsW (w.heap.size + 1) C10 10 w11) HM2.out)
  have OR11 := Lib.hid (RO.but (hv.lower R10.out.size) (grown_setCellsW (w.heap.size + 1) C10 10 w11) HM2.out)
  have HN11 : Hid (Calls Try.prog 54 #[.pointer (some ⟨B, 0, none⟩)] (w11.setCells (w.heap.size + 1) 10 C10) (StP (rawP 32 s11) (fun h _ v => v = .agg (ints .u8 (nn h)).toArray) (w11.setCells (w.heap.size + 1) 10 C10) B)) := Lib.hid (w_hash B s11 _ R11.out.lf S11.out L11.out)
  clear q r1 hg hok hno hx hL HN10 HX10 hv
  go_wp2_with (first | (refine wpList_store_part rfl 32 _ _ rfl (w.heap.size + 1) 10 rfl C10 rfl ([.int .i64 (a0 : Int), .int .i64 (a1 : Int), .int .i64 (a2 : Int), .int .u32 (a3 : Int), .int .u32 (a4 : Int), .int .i64 (a5 : Int), .int .i64 (a6 : Int), (.slice sp7 sn7 sc7), .int .i64 (a8 : Int), .int .u32 (a9 : Int)]) (zR6) (zH32 ++ [.string ⟨#[]⟩]) RP10.out.km HXL10.out (by rw [HL10.out]; rfl) (by rw [size_rep, HL10.out]) HO10.out ?_; rintro wq - - hwq; subst hwq) | fail)
  clear R10 RP10
  refine HN11.out.mono ?_
  rintro e w12 ⟨hg, hok, hno⟩
  rcases hx : rawP 32 s11 with er | ⟨a11, s12⟩
  · obtain rfl := hno er hx
    have q := HX11.out
    rw [hx, then_err] at q
    subst q
    exact ⟨rfl, StP.no (R11.out.gr.trans hg)⟩
  obtain ⟨v11, rfl, hv, hL⟩ := hok a11 s12 hx
  have q := HX11.out
  rw [hx, then_ok] at q
  have HX12 := Lib.hid q
  have r1 := R11.out.step hg hL
  have F11 := Lib.hid (raw_facts S11.out hx)
  have S12 := Lib.hid (F11.out.2.2.2.2.2.1)
  have L12 : Hid (s12.length ≤ 65536) := Lib.hid (Nat.le_trans (F11.out.2.2.2.2.2.2) L11.out)
  subst hv
  obtain ⟨C11, hCC⟩ : ∃ C, ints .u8 (nn a11) = C := ⟨_, rfl⟩
  rw [hCC]
  have HL11 : Hid (C11.length = 32) := Lib.hid (by rw [← hCC, ints_length, nn_length, F11.out.2.2.2.1])
  have HO11 : Hid (C11.toArray.all (·.oneCell') = true) := Lib.hid (by rw [← hCC]; exact ints_one _ _)
  have HCC := Lib.hid hCC
  clear hCC
  have RP11 : Hid (RdW w B 36 zM w12 s12 (([.int .i64 (a0 : Int), .int .i64 (a1 : Int), .int .i64 (a2 : Int), .int .u32 (a3 : Int), .int .u32 (a4 : Int), .int .i64 (a5 : Int), .int .i64 (a6 : Int), (.slice sp7 sn7 sc7), .int .i64 (a8 : Int), .int .u32 (a9 : Int)] ++ C10) ++ (zH32 ++ ([.string ⟨#[]⟩])))) := Lib.hid r1
  have HXL11 : Hid (16 = (([.int .i64 (a0 : Int), .int .i64 (a1 : Int), .int .i64 (a2 : Int), .int .u32 (a3 : Int), .int .u32 (a4 : Int), .int .i64 (a5 : Int), .int .i64 (a6 : Int), (.slice sp7 sn7 sc7), .int .i64 (a8 : Int), .int .u32 (a9 : Int)] ++ C10) : List Value).length) := Lib.hid (by rw [List.length_append, HL10.out]; rfl)
  have R12 : Hid (RdW w B 36 zM (w12.setCells (w.heap.size + 1) 16 C11) s12 (mC (a0 : Int) (a1 : Int) (a2 : Int) a3 a4 (a5 : Int) (a6 : Int) (.slice sp7 sn7 sc7) (a8 : Int) a9 C10 C11 ⟨#[]⟩)) := Lib.hid (by
    have q := RP11.out.part (y' := C11) (by rw [HL11.out]; rfl)
    rw [← HXL11.out] at q
    exact q)
  have OL12 := Lib.hid (LO.but (LO.but OL11.out hg HB2.out) (grown_setCellsW (w.heap.size + 1) C11 16 w12) HM2.out)
  have OR12 := Lib.hid (RO.but (RO.but OR11.out hg HB2.out) (grown_setCellsW (w.heap.size + 1) C11 16 w12) HM2.out)
  have HN12 : Hid (Calls Try.prog 55 #[.pointer (some ⟨B, 0, none⟩)] (w12.setCells (w.heap.size + 1) 16 C11) (StP (textP s12) (fun x _ v => v = .string (tx x)) (w12.setCells (w.heap.size + 1) 16 C11) B)) := Lib.hid (w_text B s12 _ R12.out.lf S12.out L12.out)
  clear q r1 hg hok hno hx hL HN11 HX11
  go_wp2_with (first | (refine wpList_store_part rfl 34 _ _ rfl (w.heap.size + 1) 16 rfl C11 rfl (([.int .i64 (a0 : Int), .int .i64 (a1 : Int), .int .i64 (a2 : Int), .int .u32 (a3 : Int), .int .u32 (a4 : Int), .int .i64 (a5 : Int), .int .i64 (a6 : Int), (.slice sp7 sn7 sc7), .int .i64 (a8 : Int), .int .u32 (a9 : Int)] ++ C10)) (zH32) ([.string ⟨#[]⟩]) RP11.out.km HXL11.out (by rw [HL11.out]; rfl) (by rw [size_hash18, HL11.out]) HO11.out ?_; rintro wq - - hwq; subst hwq) | fail)
  clear R11 RP11
  refine HN12.out.mono ?_
  rintro e w13 ⟨hg, hok, hno⟩
  rcases hx : textP s12 with er | ⟨a12, s13⟩
  · obtain rfl := hno er hx
    have q := HX12.out
    rw [hx, then_err] at q
    subst q
    exact ⟨rfl, StP.no (R12.out.gr.trans hg)⟩
  obtain ⟨v12, rfl, hv, hL⟩ := hok a12 s13 hx
  have q := HX12.out
  rw [hx, then_ok] at q
  have HX13 := Lib.hid q
  have r1 := R12.out.step hg hL
  have F12 := Lib.hid (text_facts S12.out hx)
  have S13 := Lib.hid (F12.out.2.1)
  have L13 : Hid (s13.length ≤ 65536) := Lib.hid (Nat.le_trans (F12.out.2.2.2) L12.out)
  subst hv
  have c12 := r1.cell (j := 48) ((mC_last _ _ _ _ _ _ _ _ _ _ _ ⟨#[]⟩ HL10.out HL11.out).1)
  have f12 := r1.free 48
  have R13 : Hid (RdW w B 36 zM (w13.setCell ⟨w.heap.size + 1, 48, none⟩ (.string (tx a12))) s13 (mC (a0 : Int) (a1 : Int) (a2 : Int) a3 a4 (a5 : Int) (a6 : Int) (.slice sp7 sn7 sc7) (a8 : Int) a9 C10 C11 (tx a12))) := Lib.hid (by have q := r1.put 48 (.string (tx a12)); rw [(mC_last _ _ _ _ _ _ _ _ _ _ _ _ HL10.out HL11.out).2] at q; exact q)
  have OL13 := Lib.hid (LO.but (LO.but OL12.out hg HB2.out) (grown_setCell w13 ⟨w.heap.size + 1, 48, none⟩ (.string (tx a12))) HM2.out)
  have OR13 := Lib.hid (RO.but (RO.but OR12.out hg HB2.out) (grown_setCell w13 ⟨w.heap.size + 1, 48, none⟩ (.string (tx a12))) HM2.out)
  have q := HX13.out
  subst q
  have fin := (show (mC (a0 : Int) (a1 : Int) (a2 : Int) a3 a4 (a5 : Int) (a6 : Int) (.slice sp7 sn7 sc7) (a8 : Int) a9 C10 C11 (tx a12)).length = 49 ∧ (mC (a0 : Int) (a1 : Int) (a2 : Int) a3 a4 (a5 : Int) (a6 : Int) (.slice sp7 sn7 sc7) (a8 : Int) a9 C10 C11 (tx a12)).toArray.all (·.oneCell') = true ∧ ∀ cs : Array Value, MO ((w13.setCell ⟨w.heap.size + 1, 48, none⟩ (.string (tx a12))).setRow w.heap.size cs) w.heap.size (.agg (mC (a0 : Int) (a1 : Int) (a2 : Int) a3 a4 (a5 : Int) (a6 : Int) (.slice sp7 sn7 sc7) (a8 : Int) a9 C10 C11 (tx a12)).toArray) (msgU ⟨a0, a1, a2, a3, a4, a5, a6, a7, a8, a9, a10.1, a10.2.1, a10.2.2, a11, a12⟩) from by
    obtain ⟨vi, q10, hr, ho, hvo⟩ := OR13.out
    have mo : MO (w13.setCell ⟨w.heap.size + 1, 48, none⟩ (.string (tx a12))) (w.heap.size + 2) (.agg (mC (a0 : Int) (a1 : Int) (a2 : Int) a3 a4 (a5 : Int) (a6 : Int) (.slice sp7 sn7 sc7) (a8 : Int) a9 C10 C11 (tx a12)).toArray) (msgU ⟨a0, a1, a2, a3, a4, a5, a6, a7, a8, a9, a10.1, a10.2.1, a10.2.2, a11, a12⟩) := ⟨(.slice sp7 sn7 sc7), vi, q10, by rw [hr, ← HCC.out]; rfl, OL13.out, ho, hvo, F11.out.2.2.2.1, F11.out.2.2.2.2.1⟩
    obtain ⟨R', e', h1, h2⟩ := msg_cells mo.told
    have e2 := congrArg (fun v => match v with | Value.agg c => c.toList | _ => []) e'
    simp only at e2
    rw [e2]
    refine ⟨h1, h2, fun cs => ?_⟩
    rw [← e2]
    exact (mo.row (show w.heap.size < w.heap.size + 2 by omega) cs).lower (by omega))
  obtain ⟨CS, hCS⟩ : ∃ CS, mC (a0 : Int) (a1 : Int) (a2 : Int) a3 a4 (a5 : Int) (a6 : Int) (.slice sp7 sn7 sc7) (a8 : Int) a9 C10 C11 (tx a12) = CS := ⟨_, rfl⟩
  have R13' : Hid (RdW w B 36 zM (w13.setCell ⟨w.heap.size + 1, 48, none⟩ (.string (tx a12))) s13 CS) := Lib.hid (by rw [← hCS]; exact R13.out)
  rw [hCS] at fin
  have HCL := Lib.hid fin.1
  have HCO := Lib.hid fin.2.1
  have ff := R13'.out.fin CS.toArray
  have GF := Lib.hid ff.1
  have LF := Lib.hid ff.2
  have QF := Lib.hid (fin.2.2 CS.toArray)
  have KN := Lib.hid R13'.out.kn
  have KM := Lib.hid R13'.out.km
  clear q r1 hg hok hno hx hL HN12 HX12 ff fin hCS
  go_wp2_with (first | (refine wpList_load_blkW rfl 36 _ rfl (w.heap.size + 1) rfl KM.out Try.underlying36 rfl (by rw [size_msg, HCL.out]) ?_) | (refine wpList_store_blk rfl 36 _ _ rfl w.heap.size CS rfl rfl KN.out (by rw [size_msg, HCL.out]) (by rw [HCL.out]; rfl) HCO.out ?_))
  refine bodyPost_ret (v := .agg CS.toArray) (results_cell_blk rfl _ _ _ rfl (KN.out.row CS (by rw [HCL.out]; rfl)) Try.underlying36 rfl (by rw [size_msg, HCL.out])) rfl (StP.ok GF.out QF.out LF.out)
end Go.Proofs.Ytloogjdojojehaa
