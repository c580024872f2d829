/- Walk of the program's disk: settle: all that is pending is made safe, in whatever order; then nothing is pending. -/
import Derived.Test.YtccplgicfbfjiaaZB
import Derived.IntWalk
import Derived.Test.YtccplgicfbfjiaaJ1
namespace Go.Proofs.Ytccplgicfbfjiaa
open Go.RowKit
set_option linter.unusedVariables false

/-! ### one sector is written -/
theorem heap_setCells {b i : Nat} (h : i ≠ b) : ∀ (cs : List Value) (o : Nat) (w : World), (w.setCells b o cs).heap[i]? = w.heap[i]?
  | [], _, _ => rfl
  | v :: cs, o, w => (heap_setCells h cs (o + 1) (w.setCell ⟨b, o, none⟩ v)).trans (Below.heap_setCell w ⟨b, o, none⟩ v i h)
theorem rows_parts {l : List (List Nat)} {i : Nat} (h : i < l.length) : (rowsB l).flatten = (rowsB (l.take i)).flatten ++ (rowB (l.getD i []) ++ (rowsB (l.drop (i + 1))).flatten) := by
  have e : l = l.take i ++ (l.getD i [] :: l.drop (i + 1)) := by
    rw [List.getD_eq_getElem?_getD, List.getElem?_eq_getElem h]
    show l = l.take i ++ (l[i] :: l.drop (i + 1))
    rw [← List.drop_eq_getElem_cons h, List.take_append_drop]
  conv => lhs; rw [e]
  rw [rowsB_app, List.flatten_append]
  rfl
theorem rows_setZ {l : List (List Nat)} {i : Nat} (h : i < l.length) (s : List Nat) : (rowsB (l.set i s)).flatten = (rowsB (l.take i)).flatten ++ (rowB s ++ (rowsB (l.drop (i + 1))).flatten) := by
  rw [List.set_eq_take_append_cons_drop, if_pos h, rowsB_app, List.flatten_append]
  rfl
theorem rows_off {l : List (List Nat)} (hl : ∀ s ∈ l, s.length = 32) (i : Nat) (h : i ≤ l.length) : ((rowsB (l.take i)).flatten).length = i * 32 := by
  rw [flat_len (k := 32) (rowsB_each fun s hs => hl s (List.mem_of_mem_take hs)), rowsB_len, List.length_take, Nat.min_eq_left h]
def secS (d : DiskM) (sec : List (List Nat)) : DiskM := { d with sec := sec }
section
variable {w : World} {base D S M k : Nat} {E : DataW Unit} {V : Nat → Value} {q : Option (Nat × Int)} {d : DiskM}
theorem DkW.setSec (h : DkW w base D S M k E V q d) {w' : World} {sec : List (List Nat)} (hl : sec.length = d.sec.length) (hg : w.grownBy w' (some S)) (hs : Blk w' S 64 (rowsB sec).flatten) : DkW w' base D S M k E V q (secS d sec) ∧ Turn base w w' (foot D S M V q) (foot D S M V q) := by
  have hst : ∀ b, b < w.heap.size → b ≠ S → w'.heap[b]? = w.heap[b]? := fun b hb h1 => hg.block b hb fun e => h1 (Option.some.inj e)
  refine ⟨⟨?_, hs, ?_, h.len, fun i => DkW.ownSame (h.own i) fun b e => hst b ((h.own i).lt b e).2 (h.offS i b e), h.apart, h.offS, fun L l e => ?_, ?_, h.hD, h.hS, h.hM⟩, Turn.of_grown hg (by have := h.blk.lt; have := h.hD; omega) fun b e => by cases e; exact ⟨.inr (.inl rfl), h.hS⟩⟩
  · show Blk w' D _ [.slice (some ⟨S, 0, none⟩) sec.length sec.length, _, _]
    rw [hl]
    exact (hst D h.blk.lt h.neDS).trans h.blk
  · show PenW w' M k E sec.length V d.pen
    rw [hl]
    exact h.pen.same (hst M h.pen.map.lt (fun e => h.neSM e.symm))
  · obtain ⟨h1, h2⟩ := h.left L l e
    exact ⟨(hst L h1.lt (h.neLS e)).trans h1, h2⟩
  · have := h.pw
    cases q with
    | none => exact this
    | some x => exact this
/-- a sector is stored -/
theorem DkW.stored (h : DkW w base D S M k E V q d) (hb : DkB d) {i : Nat} (hi : i < d.sec.length) (s : List Nat) (hs : s.length = 32) : w.there S (i * 32) 32 ∧
    DkW (w.setCells S (i * 32) (rowB s)) base D S M k E V q (secS d (d.sec.set i s)) ∧ Turn base w (w.setCells S (i * 32) (rowB s)) (foot D S M V q) (foot D S M V q) := by
  have hp := h.sec
  rw [rows_parts hi] at hp
  have ho := rows_off hb.ok.sec i (Nat.le_of_lt hi)
  have hold : (rowB (d.sec.getD i [])).length = (rowB s).length := by rw [rowB_len, rowB_len, hs]; exact getD_mem32 hb.ok hi
  have hr : (rowB s).length = 32 := by rw [rowB_len, hs]
  have hset := setCells_part (rowB (d.sec.getD i [])) (rowB s) _ _ w hp hold
  rw [ho, ← rows_setZ hi] at hset
  have hbl := below_setCells (b := S) (B := S) (x := w) (Nat.le_refl _) (rowB s) (i * 32) w (Below.refl _ _)
  refine ⟨fun j hj => ⟨?_, hp.free _⟩, h.setSec (by simp) ⟨hbl.os, hbl.tape, hbl.output, hbl.size, fun b _ hb => heap_setCells (fun e => hb (by rw [e])) _ _ _⟩ hset⟩
  rw [hp.cell]
  have : i * 32 + j < ((rowsB (d.sec.take i)).flatten ++ (rowB (d.sec.getD i []) ++ (rowsB (d.sec.drop (i + 1))).flatten)).length := by rw [List.length_append, List.length_append, ho]; omega
  rw [List.getElem?_eq_getElem this]
  rfl
end
section
variable {P : Program} {ops : Array Oper} {rest : List Oper} {o : Oper} {a : Act} {w : World} {Q : Exit → Act → World → Prop}
theorem wpList_store_sec (hgd : o.guard = none) (ty : TypeId) (p v : Operand) (ho : o.op = .store ty p v) (g off : Nat) (hx : a.eval p = .pointer (some ⟨g, off, none⟩)) (cs : List Value) (hy : a.eval v = .agg cs.toArray) (hth : w.there g off 32) (hcs : cs.length = 32)
    (hi : (P.info? ty).map (·.size) = some 32) (h1 : cs.toArray.all (·.oneCell') = true) (h : wpList P ops Q rest (a.put o.dst undef) (w.setCells g off cs)) : wpList P ops Q (o :: rest) a w :=
  wpList_store_mid hgd ty p v ho g off cs.toArray hx hy (by simpa [hcs] using hth) (by simpa [hcs] using hi) h1 (by simpa using h)
end
/-! ### all that is pending -/
/-- the sectors, when those keys have been gone through that are no longer left -/
def secZ (d : DiskM) (left : Lit → Bool) : List (List Nat) := (List.range d.sec.length).map fun i => if penD d.pen i ≠ [] ∧ left (kI i) = false then readD d i else d.sec.getD i []
theorem secZ_len (d : DiskM) (left : Lit → Bool) : (secZ d left).length = d.sec.length := by simp [secZ]
theorem secZ_at (d : DiskM) (left : Lit → Bool) {i : Nat} (h : i < d.sec.length) : (secZ d left).getD i [] = if penD d.pen i ≠ [] ∧ left (kI i) = false then readD d i else d.sec.getD i [] := range_getD h
theorem listL_ext {a b : List (List Nat)} (hl : a.length = b.length) (h : ∀ i, i < a.length → a.getD i [] = b.getD i []) : a = b := by
  refine List.ext_getElem hl fun i h1 h2 => ?_
  have := h i h1
  rw [List.getD_eq_getElem?_getD, List.getD_eq_getElem?_getD, List.getElem?_eq_getElem h1, List.getElem?_eq_getElem h2] at this
  exact this
theorem getD_setL {a : List (List Nat)} {i j : Nat} (s : List Nat) (h : i < a.length) : (a.set i s).getD j [] = if i = j then s else a.getD j [] := by
  rw [List.getD_eq_getElem?_getD, List.getElem?_set]
  split
  · rename_i e; subst e; first | rfl | (rw [if_pos h]; rfl)
  · rw [← List.getD_eq_getElem?_getD]
theorem secZ_start (d : DiskM) (left : Lit → Bool) (h : ∀ i, penD d.pen i ≠ [] → left (kI i) = true) : secZ d left = d.sec := by
  refine listL_ext (secZ_len d left) fun i hi => ?_
  rw [secZ_len] at hi
  rw [secZ_at d left hi, if_neg]
  rintro ⟨h1, h2⟩
  rw [h i h1] at h2
  cases h2
theorem secZ_step (d : DiskM) (left : Lit → Bool) {i : Nat} (hi : i < d.sec.length) (hp : penD d.pen i ≠ []) : secZ d (fun z => left z && !z.sameKey (kI i)) = (secZ d left).set i (readD d i) := by
  refine listL_ext (by rw [List.length_set, secZ_len, secZ_len]) fun j hj => ?_
  rw [secZ_len] at hj
  rw [secZ_at d _ hj, getD_setL _ (by rw [secZ_len]; exact hi)]
  by_cases e : i = j
  · subst e
    rw [if_pos rfl, if_pos]
    refine ⟨hp, ?_⟩
    have : (kI i).sameKey (kI i) = true := WideAt.sameKey_self trivial
    rw [this]
    simp
  · rw [if_neg e, secZ_at d left hj]
    have : (kI j).sameKey (kI i) = false := Maps.sameKey_ne (fun e2 => e (kI_inj e2).symm)
    rw [this]
    simp
theorem secZ_read (d : DiskM) (left : Lit → Bool) {i : Nat} (hi : i < d.sec.length) (hp : penD d.pen i ≠ []) : readD (secS d (secZ d left)) i = readD d i := by
  show lastD _ (penD d.pen i) = lastD _ (penD d.pen i)
  unfold lastD
  cases hg : (penD d.pen i).getLast? with
  | none => exact absurd (List.getLast?_eq_none_iff.1 hg) hp
  | some x => rfl
theorem secZ_end (d : DiskM) (left : Lit → Bool) (h : ∀ kl, left kl = false) : secZ d left = (List.range d.sec.length).map fun i => readD d i := by
  refine listL_ext (by rw [secZ_len]; simp) fun i hi => ?_
  rw [secZ_len] at hi
  rw [secZ_at d left hi, range_getD hi]
  by_cases hp : penD d.pen i = []
  · rw [if_neg (fun e => e.1 hp)]
    unfold readD
    rw [hp]; rfl
  · rw [if_pos ⟨hp, h _⟩]
theorem dkb_sec {d : DiskM} (hb : DkB d) {sec : List (List Nat)} (hl : sec.length = d.sec.length) (h : ∀ s ∈ sec, s.length = 32 ∧ Bys s) : DkB (secS d sec) :=
  ⟨⟨fun s hs => (h s hs).1, fun p hp => ⟨(hb.ok.pen p hp).1, by show p.1 < sec.length; rw [hl]; exact (hb.ok.pen p hp).2⟩⟩, by show sec.length ≤ 4096; rw [hl]; exact hb.sec, hb.pen, hb.rest, fun s hs => (h s hs).2, hb.bys.2⟩
theorem dkb_secZ {d : DiskM} (hb : DkB d) (left : Lit → Bool) : DkB (secS d (secZ d left)) := by
  refine dkb_sec hb (secZ_len d left) fun s hs => ?_
  obtain ⟨i, hi, rfl⟩ := List.mem_map.1 hs
  have hi := List.mem_range.1 hi
  split
  · exact ⟨read_len hb.ok hi, read_bys hb.bys i⟩
  · exact ⟨getD_mem32 hb.ok hi, getD_secB hb.bys.1 i⟩
def settleD (d : DiskM) : DiskM := { d with sec := (List.range d.sec.length).map (fun i => readD d i), pen := [] }
theorem settle_sync (d : DiskM) : tickD (settleD d) = syncD d := rfl
theorem DkW.cleared {w : World} {base D S M k : Nat} {E : DataW Unit} {V : Nat → Value} {q : Option (Nat × Int)} {d : DiskM} (h : DkW w base D S M k E V q d) {w' : World} (hm : w'.ownsMap Try.prog 3 hdrR M 0 (.map [])) (hg : w.grownBy w' (some M)) :
    DkW w' base D S M 0 (.map []) noVZ q { d with pen := [] } ∧ Turn base w w' (foot D S M V q) (foot D S M noVZ q) := by
  have hst : ∀ b, b < w.heap.size → b ≠ M → w'.heap[b]? = w.heap[b]? := fun b hb h1 => hg.block b hb fun e => h1 (Option.some.inj e)
  have ht : Turn base w w' (foot D S M V q) (foot D S M V q) := Turn.of_grown hg (by have := h.blk.lt; have := h.hD; omega) fun b e => by cases e; exact ⟨.inr (.inr (.inl rfl)), h.hM⟩
  refine ⟨⟨(hst D h.blk.lt h.neDM).trans h.blk, (hst S h.sec.lt h.neSM).trans h.sec, PenW.none hm, rfl, fun i => OwnR.nil _ _ _ _, (fun i j b h => by cases h), (fun i b h => by cases h), fun L l e => ?_, ?_, h.hD, h.hS, h.hM⟩, ⟨ht.b, ht.out, fun i hi => .inl ?_⟩⟩
  · obtain ⟨h1, h2⟩ := h.left L l e
    exact ⟨(hst L h1.lt (h.neLM e)).trans h1, h2⟩
  · have := h.pw
    cases q with
    | none => exact this
    | some x => exact this
  · rcases hi with e | e | e | e | ⟨j, e⟩
    · exact .inl e
    · exact .inr (.inl e)
    · exact .inr (.inr (.inl e))
    · exact .inr (.inr (.inr (.inl e)))
    · cases e
end Go.Proofs.Ytccplgicfbfjiaa
namespace Go.Proofs.Ytccplgicfbfjiaa
open Go.RowKit
set_option linter.unusedVariables false

variable {w : World} {base D S M k : Nat} {E : DataW Unit} {V : Nat → Value} {q : Option (Nat × Int)} {d : DiskM}
def stS (D S n i : Nat) (R : List Value) (j : Nat) (v : Value) (_ : World) : Prop :=
  match j with
  | 0 | 1 | 5 => v = .pointer (some ⟨D, 0, none⟩)
  | 2 => v = .pointer (some ⟨D, 0, none⟩)
  | 3 => v = .slice (some ⟨S, 0, none⟩) n n
  | 4 | 6 => v = .int .i64 (i : Int)
  | 7 => v = .agg R.toArray
  | 8 => v = .pointer (some ⟨S, i * 32, none⟩)
  | _ => True
theorem stS_mono {D S n i : Nat} {R : List Value} (j : Nat) (v : Value) (W W' : World) (h : stS D S n i R j v W) : stS D S n i R j v W' := h
set_option maxRecDepth 100000 in
set_option maxHeartbeats 2000000 in
theorem d_settle (h : DkW w base D S M k E V q d) (hb : DkB d) :
    Calls Try.prog 57 #[.pointer (some ⟨D, 0, none⟩)] w fun e w' => e = .returned (.tuple #[]) ∧
      ∃ k' E' V', DkW w' base D S M k' E' V' q (settleD d) ∧ Turn base w w' (foot D S M V q) (foot D S M V' q) := by
  have hlen := hb.sec
  have c1 := h.c1
  have HM := Lib.hid h.pen.map
  have H := Lib.hid h
  have HB := Lib.hid hb
  have HL := Lib.hid hlen
  have hstart : ∀ left : Lit → Bool, left = Maps.has E → secZ d left = d.sec := fun left e => secZ_start d left fun i hi => by rw [e, h.pen.has]; simpa using hi
  have HST := Lib.hid hstart
  clear h hb hlen hstart
  go_enter Try.func57, Try.ntmps57
  go_wp2_with (first
    | (at_range; refine wpList_range_own _ rfl _ 43 rfl 3 42 law_int Try.underlying43 hdrR M k E rfl HM.out ?_; intro w0 hrg0 hg0 hs0))
  go_frame
  go_loopw [2] (fun _ wr => ∃ (left : Lit → Bool) (cnt : Nat), wr.ranges Try.prog 3 hdrR M w.heap.size k E left cnt ∧ DkW wr base D S M k E V q (secS d (secZ d left)) ∧ Turn base w wr (foot D S M V q) (foot D S M V q))
    (fun _ wr => wr.rangeLeft M w.heap.size)
  case atStart =>
    have hB0 : Below w.heap.size w w0 := ⟨hg0.os, hg0.tape, hg0.output, hg0.size, fun b hb => hg0.block b hb (by simp)⟩
    obtain ⟨h1, t1⟩ := H.out.turn hB0
    exact ⟨_, _, hrg0, by rw [HST.out _ rfl]; exact h1, t1⟩
  case round =>
    obtain ⟨left, cnt, hrg, hw, ht⟩ := hrel
    have c1r := hw.c1
    have HW := Lib.hid hw
    have HT := Lib.hid ht
    clear hw ht c1 hg0 hs0 hrg0
    go_wp2_with (first
      | (at_next; refine wpList_next_ranges _ rfl _ rfl 3 law_int hdrR (Value.int .i64) (fun c : Option Addr × Nat × Nat => .slice c.1 c.2.1 c.2.2) (fun key kl hk => by obtain ⟨x, hx, _⟩ := Maps.keyOf_int_inv Try.underlying3 hk; exact ⟨x, hx⟩) (fun v y hv => hdrR_slice_inv hv) M w.heap.size k _ _ _ rfl hrg ?_ ?_))
    · intro _ hl0
      have hfin := secZ_end d left hl0
      have HF := Lib.hid hfin
      have HMr := Lib.hid hrg.owns
      clear hfin
      go_wp2_with (refine wpList_clear_own _ rfl _ 43 rfl 3 42 Try.underlying43 hdrR M k E rfl HMr.out ?_; intro w5 hown5 hg5)
      go_end0
      obtain ⟨h5, t5⟩ := HW.out.cleared hown5 hg5
      have e : ({ secS d (secZ d left) with pen := [] } : DiskM) = settleD d := by
        unfold secS settleD
        rw [HF.out]
      rw [e] at h5
      exact ⟨rfl, _, _, _, h5, HT.out.trans t5⟩
    · intro x ca cn cc kl yd yp w1 cnt1 hkey hlk hv hat hrg1 hlt hg1 hs1 hen
      obtain ⟨x', ex, rfl, hwx⟩ := Maps.keyOf_int_inv Try.underlying3 hkey
      cases ex
      have hhas : Maps.has E (.int .i64 x) = true := Maps.has_true_of_atKey hat
      obtain ⟨i, hi, hxi⟩ := HW.out.pen.keys _ hhas
      have hi0 : i < d.sec.length := by
        have h9 : i < (secZ d left).length := hi
        rwa [secZ_len] at h9
      obtain rfl : x = (i : Int) := by
        unfold kI at hxi
        simpa using hxi
      have hpi : penD d.pen i ≠ [] := by
        have h9 : Maps.has E (kI i) = decide (penD d.pen i ≠ []) := HW.out.pen.has i
        have h8 : Maps.has E (kI i) = true := hhas
        rw [h8] at h9
        simpa using h9.symm
      have hne : ∀ b, b < w.heap.size → some b ≠ some w.heap.size := fun b hb e => by
        have e2 := Option.some.inj e
        omega
      have hw1 : DkW w1 base D S M k E V q (secS d (secZ d left)) := HW.out.keep fun b hb => hg1.block b (HW.out.lt b hb).2 (hne b (H.out.lt b hb).2)
      have hbw := H.out.blk.lt
      have hbd := H.out.hD
      have ht1 : Turn base w w1 (foot D S M V q) (foot D S M V q) :=
        ⟨⟨hg1.os.trans HT.out.b.os, hg1.tape.trans HT.out.b.tape, hg1.output.trans HT.out.b.output, Nat.le_trans HT.out.b.size hg1.size, fun b hb => (hg1.block b (by have := HT.out.b.size; omega) (hne b (by omega))).trans (HT.out.b.block b hb)⟩,
          fun b hb hF => (hg1.block b (by have := HT.out.b.size; omega) (hne b hb)).trans (HT.out.out b hb hF), fun b hb => .inl hb⟩
      have hbL := dkb_secZ HB.out left
      have hiL : i < (secS d (secZ d left)).sec.length := hi
      have hrd := secZ_read d left hi0 hpi
      have hs32 := read_len HB.out.ok hi0
      have hstep := secZ_step d left hi0 hpi
      obtain ⟨s, hs⟩ : ∃ s, readD d i = s := ⟨_, rfl⟩
      rw [hs] at hrd hs32 hstep
      obtain ⟨R, hR⟩ : ∃ R, rowB s = R := ⟨_, rfl⟩
      have hRl : R.length = 32 := by rw [← hR, rowB_len, hs32]
      have hR1 : R.toArray.all (·.oneCell') = true := by rw [← hR]; exact rowB_one _
      have hLast := fun W (hx : DkW W base D S M k E V q (secS d (secZ d left))) => d_last hx hbL i hiL s hrd
      rw [hR] at hLast
      unfold ptD at hLast
      have hst := fun W (hx : DkW W base D S M k E V q (secS d (secZ d left))) => hx.stored hbL hiL s hs32
      rw [hR] at hst
      have hsz : (secS d (secZ d left)).sec.length = d.sec.length := secZ_len _ _
      have hnew : secS (secS d (secZ d left)) ((secS d (secZ d left)).sec.set i s) = secS d (secZ d fun z => left z && !z.sameKey (kI i)) := by rw [hstep]; rfl
      rw [hnew] at hst
      have H1 := Lib.hid hw1
      have T1 := Lib.hid ht1
      have HLA := Lib.hid hLast
      have HSt := Lib.hid hst
      have HRl := Lib.hid hRl
      have HR1 := Lib.hid hR1
      have HSZ := Lib.hid hsz
      have HRG := Lib.hid hrg1
      have HRO := Lib.hid hrg
      have HLT := Lib.hid hlt
      have HI0 := Lib.hid hi0
      have hin : (i : Int) < (d.sec.length : Int) := by omega
      clear hw1 ht1 hLast hst hRl hR1 hsz hrg1 hrg hg1 hs1 hlt hbw hbd hbL hiL hrd hs32 hstep hs hR hnew hpi hi hxi hhas hat hv hlk hkey c1r hwx hi0 hne
      generalize hn : d.sec.length = n at *
      go_wp2_with fail
      refine region_free_last 9 mixed (by kernel_rfl) (by kernel_rfl) (fun u => #[_, _, _, _, _, _, _, _, _, _, _, _, u 0, u 1, u 2, u 3, u 4, u 5, u 6, u 7, u 8, _, _, _, _]) [] (fun j => match j with | 0 => _ | 1 => _ | 2 => _ | 3 => _ | 4 => _ | 5 => _ | 6 => _ | 7 => _ | 8 => _ | _ => undef) rfl
        (NewBut w1) (show Below _ _ _ from (Below.refl _ _).drew) (stS D S n i R) ?mono ?step ?last
      case mono => exact fun j v W W' h _ _ _ => stS_mono j v W W' h
      case step =>
        intro u W j o hj ho hC hd
        have hr := Below.refl W.heap.size W
        have hDW := H1.out.below hC
        have c0 := hDW.c0
        rw [HSZ.out] at c0
        have HD := Lib.hid hDW
        clear hDW
        rcases j with _ | _ | _ | _ | _ | _ | _ | _ | _ | j
        all_goals try (simp only [List.getElem?_cons_zero, List.getElem?_cons_succ, Option.some.injEq] at ho; subst ho)
        · go_wp2_with fail
          exact ⟨_, rfl, rfl, hC, hr⟩
        · have h1 : u 0 = .pointer (some ⟨D, 0, none⟩) := hd ⟨0, .data⟩ (by simp) rfl
          rw [h1]; go_wp2_with fail
          exact ⟨_, by simp [upd, h1], rfl, hC, hr⟩
        · have h1 : u 1 = .pointer (some ⟨D, 0, none⟩) := hd ⟨1, .data⟩ (by simp) rfl
          rw [h1]; go_wp2_with fail
          exact ⟨_, by simp [upd, h1], rfl, hC, hr⟩
        · have h1 : u 2 = .pointer (some ⟨D, 0, none⟩) := hd ⟨2, .data⟩ (by simp) rfl
          rw [h1]; go_wp2_with fail
          exact ⟨_, by simp [upd, h1], rfl, hC, hr⟩
        · go_wp2_with fail
          exact ⟨_, rfl, rfl, hC, hr⟩
        · go_wp2_with fail
          exact ⟨_, rfl, rfl, hC, hr⟩
        · go_wp2_with fail
          exact ⟨_, rfl, rfl, hC, hr⟩
        · have h1 : u 5 = .pointer (some ⟨D, 0, none⟩) := hd ⟨5, .data⟩ (by simp) rfl
          have h2 : u 6 = .int .i64 (i : Int) := hd ⟨6, .data⟩ (by simp) rfl
          rw [h1, h2]; go_wp2_with fail
          (with_reducible refine (HLA.out W HD.out).mono ?_)
          rintro e w3 ⟨rfl, hb3⟩
          go_wp2_with fail
          exact ⟨_, by simp [upd, h1, h2], rfl, hC.trans (hb3.mono hC.size), hb3⟩
        · have h1 : u 3 = .slice (some ⟨S, 0, none⟩) n n := hd ⟨3, .data⟩ (by simp) rfl
          have h2 : u 4 = .int .i64 (i : Int) := hd ⟨4, .data⟩ (by simp) rfl
          rw [h1, h2]; go_wp2_with fail
          exact ⟨_, by simp [upd, h1, h2], rfl, hC, hr⟩
        · omega
      case last =>
        intro u W o ho hC hS
        simp only [List.getElem?_cons_zero, List.getElem?_cons_succ, Option.some.injEq] at ho
        subst ho
        have h7 : u 7 = .agg R.toArray := hS 7 (by decide)
        have h8 : u 8 = .pointer (some ⟨S, i * 32, none⟩) := hS 8 (by decide)
        obtain ⟨k1, k2, k3⟩ := HSt.out W (H1.out.below hC)
        have K1 := Lib.hid k1
        have K2 := Lib.hid k2
        have hTw : Turn base w1 W (foot D S M V q) (foot D S M V q) := Turn.of_below hC (by have := H1.out.blk.lt; have := H1.out.hD; omega)
        have K3 := Lib.hid (T1.out.trans (hTw.trans k3))
        have hrgW : W.ranges Try.prog 3 hdrR M w.heap.size k E (fun z => left z && !z.sameKey (kI i)) cnt1 := HRG.out.kept (grown_below hC) (by simp) (by simp)
        have hbl := below_setCells (b := S) (B := S) (x := W) (Nat.le_refl _) R (i * 32) W (Below.refl _ _)
        have hSM : S ≠ M := H.out.neSM
        have hSr : S ≠ w.heap.size := by have := H.out.sec.lt; omega
        have hgS : W.grownBy (W.setCells S (i * 32) R) (some S) := ⟨hbl.os, hbl.tape, hbl.output, hbl.size, fun b _ hb => heap_setCells (fun e => hb (by rw [e])) _ _ _⟩
        have HRX := Lib.hid (hrgW.kept hgS (fun e => hSM (Option.some.inj e).symm) (fun e => hSr (Option.some.inj e).symm))
        clear k1 k2 k3 hTw hrgW hbl hSM hSr hgS hS hC
        rw [h7, h8]
        go_wp2_with (refine wpList_store_sec rfl 64 _ _ rfl S (i * 32) rfl R rfl K1.out HRl.out size_sec HR1.out ?_)
        go_roundw
        case rel => exact ⟨_, _, _, _, _, _, _, _, _, _, _, _, _, _, ⟨_, cnt1, HRX.out, K2.out, K3.out⟩, rfl⟩
        case measure => rw [HRX.out.left_eq, HRO.out.left_eq]; exact HLT.out
set_option maxRecDepth 100000 in
theorem d_Sync (h : DkW w base D S M k E V q d) (hb : DkB d) (e : Nat) (d' : DiskM) (he : syE d = e) (hd : syD d = d') :
    Calls Try.prog 39 #[ptD D] w fun x w' => x = .returned (.int .i64 (e : Int)) ∧ ∃ k' E' V' q', DkW w' base D S M k' E' V' q' d' ∧ Turn base w w' (foot D S M V q) (foot D S M V' q') := by
  unfold syE at he
  unfold syD at hd
  cases ho : offD d with
  | true =>
    rw [ho, if_pos rfl] at he hd
    subst he hd
    have HS := Lib.hid (d_stepS_off h ho)
    unfold ptD at HS ⊢
    clear h hb ho
    go_enter Try.func39, Try.ntmps39
    go_wp2_with fail
    (with_reducible refine HS.out.mono ?_)
    rintro e w3 ⟨rfl, h3, t3⟩
    go_wp2
    go_ret
    exact ⟨rfl, _, _, _, _, h3, t3⟩
  | false =>
    rw [ho, if_neg (by decide)] at he hd
    subst he
    have HS := Lib.hid (d_stepS_on h ho (settleD d) (fun wx hx tx => d_settle hx hb) rfl rfl)
    rw [settle_sync, hd] at HS
    unfold ptD at HS ⊢
    clear h hb ho hd
    go_enter Try.func39, Try.ntmps39
    go_wp2_with fail
    (with_reducible refine HS.out.mono ?_)
    rintro e w3 ⟨rfl, k', E', V', q', h3, t3⟩
    go_wp2
    go_ret
    exact ⟨rfl, _, _, _, _, h3, t3⟩
end Go.Proofs.Ytccplgicfbfjiaa
namespace Go.Proofs.Ytccplgicfbfjiaa
open Go.RowKit
set_option linter.unusedVariables false

theorem rowB_take (s : List Nat) (n : Nat) : rowB (s.take n) = (rowB s).take n := by unfold rowB ints nn; rw [List.map_take, List.map_take]
theorem rowB_drop (s : List Nat) (n : Nat) : rowB (s.drop n) = (rowB s).drop n := by unfold rowB ints nn; rw [List.map_drop, List.map_drop]
theorem rowB_app (a b : List Nat) : rowB (a ++ b) = rowB a ++ rowB b := by unfold rowB ints nn; rw [List.map_append, List.map_append]
theorem rowB_oneM (s : List Nat) : ∀ u ∈ rowB s, u.oneCell' = true := fun u hu => by
  unfold rowB ints at hu
  obtain ⟨x, _, rfl⟩ := List.mem_map.1 hu
  rfl
theorem getL32 {l : List (List Nat)} (hl : ∀ s ∈ l, s.length = 32) {j : Nat} (h : j < l.length) : (l.getD j []).length = 32 := by
  rw [List.getD_eq_getElem?_getD, List.getElem?_eq_getElem h]
  exact hl _ (List.getElem_mem _)
set_option maxRecDepth 100000 in
set_option maxHeartbeats 1000000 in
theorem d_crashed_a (b0 : List Nat) (h0 : b0.length = 32) (l : List (List Nat)) (hl : ∀ s ∈ l, s.length = 32) (hn : l.length ≤ 100000) (g c : Nat) (kb : Nat) (hk : kb < 256) (w : World) (hS : Sl w 32 (.slice (some ⟨g, 0, none⟩) l.length c) (rowsB l)) (hpos : 0 < l.length)
    (wh : Nat) (hwh : kb / 4 % (l.length + 1) = wh) (h1 : wh = 0) :
    Calls Try.prog 22 #[.agg (rowB b0).toArray, .slice (some ⟨g, 0, none⟩) l.length c, .int .u8 (kb : Int)] w fun e w' => e = .returned (.agg (rowB (tornS b0 l kb)).toArray) ∧ Below w.heap.size w w' := by
  obtain ⟨pa, hpa⟩ : ∃ pa, kb % 4 = pa := ⟨_, rfl⟩
  have hpa4 : pa < 4 := by omega
  obtain ⟨ph, hph⟩ : ∃ ph, pa * 8 = ph := ⟨_, rfl⟩
  obtain ⟨was, hwas⟩ : ∃ was, b0 = was := ⟨_, rfl⟩
  have hw32 : was.length = 32 := by rw [← hwas]; exact h0
  have ht : tornS b0 l kb = (l.getD wh []).take (8 * pa) ++ was.drop (8 * pa) := by
    unfold tornS
    simp only [hwh, hpa]
    rw [h1, if_pos rfl, if_pos hpos, hwas]
  obtain ⟨t, htt⟩ : ∃ t, tornS b0 l kb = t := ⟨_, rfl⟩
  rw [htt] at ht ⊢
  have ht32 : t.length = 32 := by rw [← htt]; exact torn_len h0 hl
  obtain ⟨Z, hZ⟩ : ∃ Z, rowB (zerN 32) = Z := ⟨_, rfl⟩
  obtain ⟨R0, hR0⟩ : ∃ R, rowB b0 = R := ⟨_, rfl⟩
  obtain ⟨W0, hW0⟩ : ∃ R, rowB was = R := ⟨_, rfl⟩
  obtain ⟨RT, hRT⟩ : ∃ R, rowB t = R := ⟨_, rfl⟩
  have lZ : Z.length = 32 := by rw [← hZ, rowB_len, zerN_len]
  have l0 : R0.length = 32 := by rw [← hR0, rowB_len, h0]
  have lW : W0.length = 32 := by rw [← hW0, rowB_len, hw32]
  have lT : RT.length = 32 := by rw [← hRT, rowB_len, ht32]
  have oT : RT.toArray.all (·.oneCell') = true := by rw [← hRT]; exact rowB_one _
  have oW : W0.toArray.all (·.oneCell') = true := by rw [← hW0]; exact rowB_one _
  obtain ⟨B, hB⟩ : ∃ B, w.heap.size = B := ⟨_, rfl⟩
  have hal : ∀ w', (Instr.alloc 64 true (.tuple #[])).run Try.prog w' = .ok (.pointer (some ⟨w'.heap.size, 0, none⟩)) (w'.alloc (.cells Z.toArray 64)) := fun w' => by rw [← hZ]; exact alloc_sec w'
  obtain ⟨w1, hw1⟩ : ∃ w1, (w.alloc (.cells R0.toArray 64)).alloc (.cells Z.toArray 64) = w1 := ⟨_, rfl⟩
  have k0 : Blk w1 B 64 R0 := by rw [← hw1]; exact (Blk.newAt w B hB 64 R0 rfl).alloc _
  have k1 : Blk w1 (B + 1) 64 Z := by rw [← hw1]; exact Blk.newAt _ (B + 1) (by simp [hB]) 64 Z rfl
  have hb1 : Below B w w1 := by rw [← hw1, ← hB]; exact ((Below.refl w.heap.size w).alloc (Nat.le_refl _) _).alloc (by simp) _
  have hS1 : Sl w1 32 (.slice (some ⟨g, 0, none⟩) l.length c) (rowsB l) := hS.below (by rw [hB]; exact hb1)
  have hgB : g < B := by
    obtain ⟨_, _, _, _, h3⟩ := hS
    obtain ⟨a, e, hlt, _⟩ := h3 0 _ (rowsB_at hpos)
    rename_i p cap hv _
    simp only [Value.slice.injEq] at hv
    obtain ⟨rfl, _, _⟩ := hv
    cases e
    rw [← hB]
    exact hlt
  have hys := row_at (j := wh) (by omega) hS1
  have HYS : Hid (∀ (nq j : Nat) (v : Value), ((rowB (l.getD wh [])).take (ph))[j]? = some v → (w1.drewN nq).cell? (Addr.add ⟨g, wh * 32, none⟩ j) = some v) := Lib.hid fun nq j v h => by
    have h2 : (rowB (l.getD wh []))[j]? = some v := by
      rw [List.getElem?_take] at h
      split at h
      · exact h
      · cases h
    exact  (hys j v h2)
  have hyl : ((rowB (l.getD wh [])).take (ph)).length = ph := by rw [List.length_take, rowB_len, getL32 hl (by omega)]; omega
  have hyo : ∀ u ∈ (rowB (l.getD wh [])).take (ph), u.oneCell' = true := fun u hu => rowB_oneM _ u (List.mem_of_mem_take hu)
  have hx : (rowB (l.getD wh [])).take (ph) ++ W0.drop (ph) = RT := by rw [← hRT, ht, rowB_app, rowB_take, rowB_drop, hW0, Nat.mul_comm 8 pa, hph]
  obtain ⟨YS, hYS⟩ : ∃ YS, (rowB (l.getD wh [])).take (ph) = YS := ⟨_, rfl⟩
  rw [hYS] at HYS hyl hyo hx
  have YL := Lib.hid hyl.symm
  have YO := Lib.hid hyo
  have HX := Lib.hid hx

  obtain ⟨kd, hkd⟩ : ∃ kd, kb / 4 = kd := ⟨_, rfl⟩
  have e0 : ((kb : Int) / 4) = (kd : Int) := by omega
  have e0t : ((kb : Int).tdiv 4) = (kd : Int) := by rw [Int.tdiv_eq_ediv_of_nonneg (by omega)]; exact e0
  have kdl : kd < 64 := by omega
  rw [hkd] at hwh
  have e1 : ((kd : Int) % ((l.length : Int) + 1)) = (wh : Int) := by rw [← hwh, Int.natCast_emod]; rfl
  have e1t : ((kd : Int).tmod ((l.length : Int) + 1)) = (wh : Int) := by rw [Int.tmod_eq_emod_of_nonneg (by omega)]; exact e1
  have e2t : ((kb : Int).tmod 4) = (pa : Int) := by rw [Int.tmod_eq_emod_of_nonneg (by omega)]; omega
  have e2 : ((kb : Int) % 4) = (pa : Int) := by omega
  have whn : wh ≤ l.length := by rw [← hwh]; have := Nat.mod_lt kd (show 0 < l.length + 1 by omega); omega
  have HAL := Lib.hid hal
  have L0 := Lib.hid l0
  have LZ := Lib.hid lZ
  have LW := Lib.hid lW
  have LT := Lib.hid lT
  have OT := Lib.hid oT
  have OW := Lib.hid oW
  have K0 := Lib.hid k0
  have K1 := Lib.hid k1
  have GB := Lib.hid hb1
  have HBE := Lib.hid hB
  have hRW : W0 = R0 := by rw [← hR0, ← hW0, hwas]
  have d1 : ¬ (0 : Int) < (wh : Int) := by omega
  have d1n : ¬ 0 < wh := by omega
  have d2 : (wh : Int) < (l.length : Int) := by omega
  have d2n : wh < l.length := by omega
  have p8 : (ph : Int) ≤ 32 := by omega
  have e8 : (pa : Int) * 8 = (ph : Int) := by omega
  have t8 : ((ph : Int)).toNat = ph := by omega
  rw [hR0, hRT]
  generalize hnn : l.length = n at *
  clear hal l0 lZ lW lT oT oW k0 k1 hb1 hS hS1 hgB hR0 hZ hW0 hRT htt ht ht32 hw32 h0 hl hwh hpa hnn hkd h1 hwas hys hyl hyo hx hYS
  subst hw1
  go_enter Try.func22, Try.ntmps22
  subst hRW
  go_wp2_with (first | (refine wpList_alloc_n rfl 64 rfl (B + 1) (by simp [hB]) _ (HAL.out _) ?_))
  refine region_drew_tail 7 mixed (by kernel_rfl) ?_
  simp only [List.take_succ_cons, List.take_zero, List.drop_succ_cons, List.drop_zero]
  repeat (first | go_big_quiet_step (fail) | quiet_step (fail))
  refine wpQuiet_nil ?_
  rintro w7 ⟨nq, rfl⟩
  have j0 : Blk (((w.alloc (.cells W0.toArray 64)).alloc (.cells Z.toArray 64)).drewN nq) B 64 W0 := (K0.out.drewN nq)
  have j1 : Blk (((w.alloc (.cells W0.toArray 64)).alloc (.cells Z.toArray 64)).drewN nq) (B + 1) 64 Z := (K1.out.drewN nq)
  have jb : Below B w (((w.alloc (.cells W0.toArray 64)).alloc (.cells Z.toArray 64)).drewN nq) := (below_drewN GB.out nq)
  have m0 := j0.row RT (by rw [LT.out, LW.out])
  have m1 := j1.rowOther (show B + 1 ≠ B by omega) RT.toArray
  have mb := below_setRow jb (b := B) (Nat.le_refl _) RT.toArray
  have x1 := m1.row RT (by rw [LT.out, LZ.out])
  have xb := below_setRow mb (b := B + 1) (by omega) RT.toArray
  have J0 := Lib.hid j0
  have M0 := Lib.hid m0
  have M1 := Lib.hid m1
  have X1 := Lib.hid x1
  have XB := Lib.hid xb
  have HYW := Lib.hid (fun j v (h : YS[j]? = some v) => HYS.out nq j v h)
  clear j0 j1 jb m0 m1 mb x1 xb
  go_wp2_with (first | (refine wpList_copy_head rfl _ _ 24 24 5 rfl B 32 32 rfl ⟨g, wh * 32, none⟩ (ph) 32 rfl J0.out YS HYW.out YL.out (by omega) (Nat.le_of_eq LW.out.symm) YO.out Try.underlying24 size_u8 ?_; rw [HX.out]) | (refine wpList_load_blk rfl 64 _ rfl B rfl M0.out Try.underlying64 rfl (by rw [size_sec, LT.out]) ?_) | (refine wpList_store_blk rfl 64 _ _ rfl (B + 1) RT rfl rfl M1.out (by rw [size_sec, LT.out]) (by rw [LZ.out, LT.out]) OT.out ?_))
  refine bodyPost_ret (v := .agg RT.toArray) (results_cell_blk rfl _ _ _ rfl X1.out Try.underlying64 rfl (by rw [size_sec, LT.out])) rfl ⟨rfl, by first | exact XB.out | (rw [HBE.out]; exact XB.out)⟩

set_option maxRecDepth 100000 in
set_option maxHeartbeats 1000000 in
theorem d_crashed_b (b0 : List Nat) (h0 : b0.length = 32) (l : List (List Nat)) (hl : ∀ s ∈ l, s.length = 32) (hn : l.length ≤ 100000) (g c : Nat) (kb : Nat) (hk : kb < 256) (w : World) (hS : Sl w 32 (.slice (some ⟨g, 0, none⟩) l.length c) (rowsB l)) (hpos : 0 < l.length)
    (wh : Nat) (hwh : kb / 4 % (l.length + 1) = wh) (h1 : 0 < wh) (h2 : wh < l.length) :
    Calls Try.prog 22 #[.agg (rowB b0).toArray, .slice (some ⟨g, 0, none⟩) l.length c, .int .u8 (kb : Int)] w fun e w' => e = .returned (.agg (rowB (tornS b0 l kb)).toArray) ∧ Below w.heap.size w w' := by
  obtain ⟨pa, hpa⟩ : ∃ pa, kb % 4 = pa := ⟨_, rfl⟩
  have hpa4 : pa < 4 := by omega
  obtain ⟨ph, hph⟩ : ∃ ph, pa * 8 = ph := ⟨_, rfl⟩
  obtain ⟨was, hwas⟩ : ∃ was, l.getD (wh - 1) [] = was := ⟨_, rfl⟩
  have hw32 : was.length = 32 := by rw [← hwas]; exact getL32 hl (by omega)
  have ht : tornS b0 l kb = (l.getD wh []).take (8 * pa) ++ was.drop (8 * pa) := by
    unfold tornS
    simp only [hwh, hpa]
    rw [if_pos h2, if_neg (show ¬ wh = 0 by omega), hwas]
  obtain ⟨t, htt⟩ : ∃ t, tornS b0 l kb = t := ⟨_, rfl⟩
  rw [htt] at ht ⊢
  have ht32 : t.length = 32 := by rw [← htt]; exact torn_len h0 hl
  obtain ⟨Z, hZ⟩ : ∃ Z, rowB (zerN 32) = Z := ⟨_, rfl⟩
  obtain ⟨R0, hR0⟩ : ∃ R, rowB b0 = R := ⟨_, rfl⟩
  obtain ⟨W0, hW0⟩ : ∃ R, rowB was = R := ⟨_, rfl⟩
  obtain ⟨RT, hRT⟩ : ∃ R, rowB t = R := ⟨_, rfl⟩
  have lZ : Z.length = 32 := by rw [← hZ, rowB_len, zerN_len]
  have l0 : R0.length = 32 := by rw [← hR0, rowB_len, h0]
  have lW : W0.length = 32 := by rw [← hW0, rowB_len, hw32]
  have lT : RT.length = 32 := by rw [← hRT, rowB_len, ht32]
  have oT : RT.toArray.all (·.oneCell') = true := by rw [← hRT]; exact rowB_one _
  have oW : W0.toArray.all (·.oneCell') = true := by rw [← hW0]; exact rowB_one _
  obtain ⟨B, hB⟩ : ∃ B, w.heap.size = B := ⟨_, rfl⟩
  have hal : ∀ w', (Instr.alloc 64 true (.tuple #[])).run Try.prog w' = .ok (.pointer (some ⟨w'.heap.size, 0, none⟩)) (w'.alloc (.cells Z.toArray 64)) := fun w' => by rw [← hZ]; exact alloc_sec w'
  obtain ⟨w1, hw1⟩ : ∃ w1, (w.alloc (.cells R0.toArray 64)).alloc (.cells Z.toArray 64) = w1 := ⟨_, rfl⟩
  have k0 : Blk w1 B 64 R0 := by rw [← hw1]; exact (Blk.newAt w B hB 64 R0 rfl).alloc _
  have k1 : Blk w1 (B + 1) 64 Z := by rw [← hw1]; exact Blk.newAt _ (B + 1) (by simp [hB]) 64 Z rfl
  have hb1 : Below B w w1 := by rw [← hw1, ← hB]; exact ((Below.refl w.heap.size w).alloc (Nat.le_refl _) _).alloc (by simp) _
  have hS1 : Sl w1 32 (.slice (some ⟨g, 0, none⟩) l.length c) (rowsB l) := hS.below (by rw [hB]; exact hb1)
  have hgB : g < B := by
    obtain ⟨_, _, _, _, h3⟩ := hS
    obtain ⟨a, e, hlt, _⟩ := h3 0 _ (rowsB_at hpos)
    rename_i p cap hv _
    simp only [Value.slice.injEq] at hv
    obtain ⟨rfl, _, _⟩ := hv
    cases e
    rw [← hB]
    exact hlt
  have hrow := row_at (j := wh - 1) (by omega) hS1
  rw [hwas, hW0] at hrow
  have HROW := Lib.hid hrow
  have hys := row_at (j := wh) (by omega) hS1
  have HYS : Hid (∀ (nq j : Nat) (v : Value), ((rowB (l.getD wh [])).take (ph))[j]? = some v → ((w1.setRow B W0.toArray).drewN nq).cell? (Addr.add ⟨g, wh * 32, none⟩ j) = some v) := Lib.hid fun nq j v h => by
    have h2 : (rowB (l.getD wh []))[j]? = some v := by
      rw [List.getElem?_take] at h
      split at h
      · exact h
      · cases h
    exact (show (w1.setRow B W0.toArray).cell? _ = _ from (cell_same (X := w1) (by rw [add_block]; exact setRow_other w1 B g W0.toArray (by omega))).trans (hys j v h2))
  have hyl : ((rowB (l.getD wh [])).take (ph)).length = ph := by rw [List.length_take, rowB_len, getL32 hl (by omega)]; omega
  have hyo : ∀ u ∈ (rowB (l.getD wh [])).take (ph), u.oneCell' = true := fun u hu => rowB_oneM _ u (List.mem_of_mem_take hu)
  have hx : (rowB (l.getD wh [])).take (ph) ++ W0.drop (ph) = RT := by rw [← hRT, ht, rowB_app, rowB_take, rowB_drop, hW0, Nat.mul_comm 8 pa, hph]
  obtain ⟨YS, hYS⟩ : ∃ YS, (rowB (l.getD wh [])).take (ph) = YS := ⟨_, rfl⟩
  rw [hYS] at HYS hyl hyo hx
  have YL := Lib.hid hyl.symm
  have YO := Lib.hid hyo
  have HX := Lib.hid hx

  obtain ⟨kd, hkd⟩ : ∃ kd, kb / 4 = kd := ⟨_, rfl⟩
  have e0 : ((kb : Int) / 4) = (kd : Int) := by omega
  have e0t : ((kb : Int).tdiv 4) = (kd : Int) := by rw [Int.tdiv_eq_ediv_of_nonneg (by omega)]; exact e0
  have kdl : kd < 64 := by omega
  rw [hkd] at hwh
  have e1 : ((kd : Int) % ((l.length : Int) + 1)) = (wh : Int) := by rw [← hwh, Int.natCast_emod]; rfl
  have e1t : ((kd : Int).tmod ((l.length : Int) + 1)) = (wh : Int) := by rw [Int.tmod_eq_emod_of_nonneg (by omega)]; exact e1
  have e2t : ((kb : Int).tmod 4) = (pa : Int) := by rw [Int.tmod_eq_emod_of_nonneg (by omega)]; omega
  have e2 : ((kb : Int) % 4) = (pa : Int) := by omega
  have whn : wh ≤ l.length := by rw [← hwh]; have := Nat.mod_lt kd (show 0 < l.length + 1 by omega); omega
  have HAL := Lib.hid hal
  have L0 := Lib.hid l0
  have LZ := Lib.hid lZ
  have LW := Lib.hid lW
  have LT := Lib.hid lT
  have OT := Lib.hid oT
  have OW := Lib.hid oW
  have K0 := Lib.hid k0
  have K1 := Lib.hid k1
  have GB := Lib.hid hb1
  have HBE := Lib.hid hB
  have d1 : (0 : Int) < (wh : Int) := by omega
  have d1m : (wh : Int) - 1 < (l.length : Int) := by omega
  have t1 : ((wh : Int) - 1).toNat = wh - 1 := by omega
  have d2 : (wh : Int) < (l.length : Int) := by omega
  have d2n : wh < l.length := by omega
  have p8 : (ph : Int) ≤ 32 := by omega
  have e8 : (pa : Int) * 8 = (ph : Int) := by omega
  have t8 : ((ph : Int)).toNat = ph := by omega
  rw [hR0, hRT]
  generalize hnn : l.length = n at *
  clear hal l0 lZ lW lT oT oW k0 k1 hb1 hS hS1 hgB hR0 hZ hW0 hRT htt ht ht32 hw32 h0 hl hwh hpa hnn hkd hwas hys hyl hyo hx hYS hrow h2
  subst hw1
  go_enter Try.func22, Try.ntmps22
  go_wp2_with (first | (refine wpList_alloc_n rfl 64 rfl (B + 1) (by simp [hB]) _ (HAL.out _) ?_) | (refine wpList_load_addr rfl 64 _ rfl ⟨g, (wh - 1) * 32, none⟩ rfl W0 HROW.out Try.underlying64 rfl (by rw [size_sec, LW.out]) ?_) | (refine wpList_store_blk rfl 64 _ _ rfl B W0 rfl rfl K0.out (by rw [size_sec, LW.out]) (by rw [L0.out, LW.out]) OW.out ?_))
  refine region_drew_tail 7 mixed (by kernel_rfl) ?_
  simp only [List.take_succ_cons, List.take_zero, List.drop_succ_cons, List.drop_zero]
  repeat (first | go_big_quiet_step (fail) | quiet_step (fail))
  refine wpQuiet_nil ?_
  rintro w7 ⟨nq, rfl⟩
  have j0 : Blk ((((w.alloc (.cells R0.toArray 64)).alloc (.cells Z.toArray 64)).setRow B W0.toArray).drewN nq) B 64 W0 := ((K0.out.row W0 (by rw [L0.out, LW.out])).drewN nq)
  have j1 : Blk ((((w.alloc (.cells R0.toArray 64)).alloc (.cells Z.toArray 64)).setRow B W0.toArray).drewN nq) (B + 1) 64 Z := ((K1.out.rowOther (show B + 1 ≠ B by omega) W0.toArray).drewN nq)
  have jb : Below B w ((((w.alloc (.cells R0.toArray 64)).alloc (.cells Z.toArray 64)).setRow B W0.toArray).drewN nq) := (below_drewN (below_setRow GB.out (b := B) (Nat.le_refl _) W0.toArray) nq)
  have m0 := j0.row RT (by rw [LT.out, LW.out])
  have m1 := j1.rowOther (show B + 1 ≠ B by omega) RT.toArray
  have mb := below_setRow jb (b := B) (Nat.le_refl _) RT.toArray
  have x1 := m1.row RT (by rw [LT.out, LZ.out])
  have xb := below_setRow mb (b := B + 1) (by omega) RT.toArray
  have J0 := Lib.hid j0
  have M0 := Lib.hid m0
  have M1 := Lib.hid m1
  have X1 := Lib.hid x1
  have XB := Lib.hid xb
  have HYW := Lib.hid (fun j v (h : YS[j]? = some v) => HYS.out nq j v h)
  clear j0 j1 jb m0 m1 mb x1 xb
  go_wp2_with (first | (refine wpList_copy_head rfl _ _ 24 24 5 rfl B 32 32 rfl ⟨g, wh * 32, none⟩ (ph) 32 rfl J0.out YS HYW.out YL.out (by omega) (Nat.le_of_eq LW.out.symm) YO.out Try.underlying24 size_u8 ?_; rw [HX.out]) | (refine wpList_load_blk rfl 64 _ rfl B rfl M0.out Try.underlying64 rfl (by rw [size_sec, LT.out]) ?_) | (refine wpList_store_blk rfl 64 _ _ rfl (B + 1) RT rfl rfl M1.out (by rw [size_sec, LT.out]) (by rw [LZ.out, LT.out]) OT.out ?_))
  refine bodyPost_ret (v := .agg RT.toArray) (results_cell_blk rfl _ _ _ rfl X1.out Try.underlying64 rfl (by rw [size_sec, LT.out])) rfl ⟨rfl, by first | exact XB.out | (rw [HBE.out]; exact XB.out)⟩

set_option maxRecDepth 100000 in
set_option maxHeartbeats 1000000 in
theorem d_crashed_c (b0 : List Nat) (h0 : b0.length = 32) (l : List (List Nat)) (hl : ∀ s ∈ l, s.length = 32) (hn : l.length ≤ 100000) (g c : Nat) (kb : Nat) (hk : kb < 256) (w : World) (hS : Sl w 32 (.slice (some ⟨g, 0, none⟩) l.length c) (rowsB l)) (hpos : 0 < l.length)
    (wh : Nat) (hwh : kb / 4 % (l.length + 1) = wh) (h1 : 0 < wh) (h2 : ¬ wh < l.length) :
    Calls Try.prog 22 #[.agg (rowB b0).toArray, .slice (some ⟨g, 0, none⟩) l.length c, .int .u8 (kb : Int)] w fun e w' => e = .returned (.agg (rowB (tornS b0 l kb)).toArray) ∧ Below w.heap.size w w' := by
  obtain ⟨pa, hpa⟩ : ∃ pa, kb % 4 = pa := ⟨_, rfl⟩
  have hpa4 : pa < 4 := by omega
  obtain ⟨ph, hph⟩ : ∃ ph, pa * 8 = ph := ⟨_, rfl⟩
  obtain ⟨was, hwas⟩ : ∃ was, l.getD (wh - 1) [] = was := ⟨_, rfl⟩
  have hw32 : was.length = 32 := by rw [← hwas]; exact getL32 hl (by have := Nat.mod_lt (kb / 4) (show 0 < l.length + 1 by omega); omega)
  have ht : tornS b0 l kb = was := by
    unfold tornS
    simp only [hwh, hpa]
    rw [if_neg h2, if_neg (show ¬ wh = 0 by omega), hwas]
  obtain ⟨t, htt⟩ : ∃ t, tornS b0 l kb = t := ⟨_, rfl⟩
  rw [htt] at ht ⊢
  have ht32 : t.length = 32 := by rw [← htt]; exact torn_len h0 hl
  obtain ⟨Z, hZ⟩ : ∃ Z, rowB (zerN 32) = Z := ⟨_, rfl⟩
  obtain ⟨R0, hR0⟩ : ∃ R, rowB b0 = R := ⟨_, rfl⟩
  obtain ⟨W0, hW0⟩ : ∃ R, rowB was = R := ⟨_, rfl⟩
  obtain ⟨RT, hRT⟩ : ∃ R, rowB t = R := ⟨_, rfl⟩
  have lZ : Z.length = 32 := by rw [← hZ, rowB_len, zerN_len]
  have l0 : R0.length = 32 := by rw [← hR0, rowB_len, h0]
  have lW : W0.length = 32 := by rw [← hW0, rowB_len, hw32]
  have lT : RT.length = 32 := by rw [← hRT, rowB_len, ht32]
  have oT : RT.toArray.all (·.oneCell') = true := by rw [← hRT]; exact rowB_one _
  have oW : W0.toArray.all (·.oneCell') = true := by rw [← hW0]; exact rowB_one _
  obtain ⟨B, hB⟩ : ∃ B, w.heap.size = B := ⟨_, rfl⟩
  have hal : ∀ w', (Instr.alloc 64 true (.tuple #[])).run Try.prog w' = .ok (.pointer (some ⟨w'.heap.size, 0, none⟩)) (w'.alloc (.cells Z.toArray 64)) := fun w' => by rw [← hZ]; exact alloc_sec w'
  obtain ⟨w1, hw1⟩ : ∃ w1, (w.alloc (.cells R0.toArray 64)).alloc (.cells Z.toArray 64) = w1 := ⟨_, rfl⟩
  have k0 : Blk w1 B 64 R0 := by rw [← hw1]; exact (Blk.newAt w B hB 64 R0 rfl).alloc _
  have k1 : Blk w1 (B + 1) 64 Z := by rw [← hw1]; exact Blk.newAt _ (B + 1) (by simp [hB]) 64 Z rfl
  have hb1 : Below B w w1 := by rw [← hw1, ← hB]; exact ((Below.refl w.heap.size w).alloc (Nat.le_refl _) _).alloc (by simp) _
  have hS1 : Sl w1 32 (.slice (some ⟨g, 0, none⟩) l.length c) (rowsB l) := hS.below (by rw [hB]; exact hb1)
  have hgB : g < B := by
    obtain ⟨_, _, _, _, h3⟩ := hS
    obtain ⟨a, e, hlt, _⟩ := h3 0 _ (rowsB_at hpos)
    rename_i p cap hv _
    simp only [Value.slice.injEq] at hv
    obtain ⟨rfl, _, _⟩ := hv
    cases e
    rw [← hB]
    exact hlt
  have hrow := row_at (j := wh - 1) (by have := Nat.mod_lt (kb / 4) (show 0 < l.length + 1 by omega); omega) hS1
  rw [hwas, hW0] at hrow
  have HROW := Lib.hid hrow

  obtain ⟨kd, hkd⟩ : ∃ kd, kb / 4 = kd := ⟨_, rfl⟩
  have e0 : ((kb : Int) / 4) = (kd : Int) := by omega
  have e0t : ((kb : Int).tdiv 4) = (kd : Int) := by rw [Int.tdiv_eq_ediv_of_nonneg (by omega)]; exact e0
  have kdl : kd < 64 := by omega
  rw [hkd] at hwh
  have e1 : ((kd : Int) % ((l.length : Int) + 1)) = (wh : Int) := by rw [← hwh, Int.natCast_emod]; rfl
  have e1t : ((kd : Int).tmod ((l.length : Int) + 1)) = (wh : Int) := by rw [Int.tmod_eq_emod_of_nonneg (by omega)]; exact e1
  have e2t : ((kb : Int).tmod 4) = (pa : Int) := by rw [Int.tmod_eq_emod_of_nonneg (by omega)]; omega
  have e2 : ((kb : Int) % 4) = (pa : Int) := by omega
  have whn : wh ≤ l.length := by rw [← hwh]; have := Nat.mod_lt kd (show 0 < l.length + 1 by omega); omega
  have HAL := Lib.hid hal
  have L0 := Lib.hid l0
  have LZ := Lib.hid lZ
  have LW := Lib.hid lW
  have LT := Lib.hid lT
  have OT := Lib.hid oT
  have OW := Lib.hid oW
  have K0 := Lib.hid k0
  have K1 := Lib.hid k1
  have GB := Lib.hid hb1
  have HBE := Lib.hid hB
  have hRW : W0 = RT := by rw [← hRT, ← hW0, ht]
  have d1 : (0 : Int) < (wh : Int) := by omega
  have d1m : (wh : Int) - 1 < (l.length : Int) := by omega
  have t1 : ((wh : Int) - 1).toNat = wh - 1 := by omega
  have d2 : ¬ (wh : Int) < (l.length : Int) := by omega
  rw [hR0, hRT]
  generalize hnn : l.length = n at *
  clear hal l0 lZ lW lT oT oW k0 k1 hb1 hS hS1 hgB hR0 hZ hW0 hRT htt ht ht32 hw32 h0 hl hwh hpa hnn hkd hwas hrow
  subst hw1
  go_enter Try.func22, Try.ntmps22
  subst hRW
  have m0 := K0.out.row W0 (by rw [L0.out, LW.out])
  have m1 := K1.out.rowOther (show B + 1 ≠ B by omega) W0.toArray
  have mb := below_setRow GB.out (b := B) (Nat.le_refl _) W0.toArray
  have x1 := m1.row W0 (by rw [LW.out, LZ.out])
  have xb := below_setRow mb (b := B + 1) (by omega) W0.toArray
  have M0 := Lib.hid m0
  have M1 := Lib.hid m1
  have X1 := Lib.hid x1
  have XB := Lib.hid xb
  clear m0 m1 mb x1 xb
  go_wp2_with (first | (refine wpList_alloc_n rfl 64 rfl (B + 1) (by simp [hB]) _ (HAL.out _) ?_) | (refine wpList_load_addr rfl 64 _ rfl ⟨g, (wh - 1) * 32, none⟩ rfl W0 HROW.out Try.underlying64 rfl (by rw [size_sec, LW.out]) ?_) | (refine wpList_store_blk rfl 64 _ _ rfl B W0 rfl rfl K0.out (by rw [size_sec, LW.out]) (by rw [L0.out, LW.out]) OW.out ?_) | (refine wpList_load_blk rfl 64 _ rfl B rfl M0.out Try.underlying64 rfl (by rw [size_sec, LW.out]) ?_) | (refine wpList_store_blk rfl 64 _ _ rfl (B + 1) W0 rfl rfl M1.out (by rw [size_sec, LW.out]) (by rw [LZ.out, LW.out]) OW.out ?_))
  refine bodyPost_ret (v := .agg W0.toArray) (results_cell_blk rfl _ _ _ rfl X1.out Try.underlying64 rfl (by rw [size_sec, LW.out])) rfl ⟨rfl, by first | exact XB.out | (rw [HBE.out]; exact XB.out)⟩

theorem d_crashed (b0 : List Nat) (h0 : b0.length = 32) (l : List (List Nat)) (hl : ∀ s ∈ l, s.length = 32) (hn : l.length ≤ 100000) (g c : Nat) (kb : Nat) (hk : kb < 256) (w : World) (hS : Sl w 32 (.slice (some ⟨g, 0, none⟩) l.length c) (rowsB l)) (hpos : 0 < l.length) :
    Calls Try.prog 22 #[.agg (rowB b0).toArray, .slice (some ⟨g, 0, none⟩) l.length c, .int .u8 (kb : Int)] w fun e w' => e = .returned (.agg (rowB (tornS b0 l kb)).toArray) ∧ Below w.heap.size w w' := by
  by_cases h1 : kb / 4 % (l.length + 1) = 0
  · exact d_crashed_a b0 h0 l hl hn g c kb hk w hS hpos _ rfl h1
  · by_cases h2 : kb / 4 % (l.length + 1) < l.length
    · exact d_crashed_b b0 h0 l hl hn g c kb hk w hS hpos _ rfl (by omega) h2
    · exact d_crashed_c b0 h0 l hl hn g c kb hk w hS hpos _ rfl (by omega) h2
end Go.Proofs.Ytccplgicfbfjiaa
namespace Go.Proofs.Ytccplgicfbfjiaa
open Go.RowKit
set_option linter.unusedVariables false

def ksD (d : DiskM) : List Nat := (List.range d.sec.length).filter fun i => decide (penD d.pen i ≠ [])
theorem filter_place (p : Nat → Bool) : ∀ (n j i : Nat), ((List.range n).filter p)[j]? = some i ↔ i < n ∧ p i = true ∧ ((List.range i).filter p).length = j
  | 0, j, i => by simp
  | n + 1, j, i => by
    have ih := filter_place p n
    rw [List.range_succ, List.filter_append]
    by_cases hj : j < ((List.range n).filter p).length
    · rw [List.getElem?_append_left hj, ih]
      constructor
      · rintro ⟨h1, h2, h3⟩
        exact ⟨by omega, h2, h3⟩
      · rintro ⟨h1, h2, h3⟩
        refine ⟨?_, h2, h3⟩
        rcases Nat.lt_or_ge i n with h | h
        · exact h
        · obtain rfl : i = n := by omega
          omega
    · rw [List.getElem?_append_right (by omega)]
      by_cases hp : p n = true
      · have e : List.filter p [n] = [n] := by simp [hp]
        rw [e]
        constructor
        · intro h
          have h0 : j - ((List.range n).filter p).length = 0 := by
            have := (List.getElem?_eq_some_iff.1 h).1
            simp at this
            omega
          rw [h0] at h
          obtain rfl : n = i := by simpa using h
          exact ⟨by omega, hp, by omega⟩
        · rintro ⟨h1, h2, h3⟩
          rcases Nat.lt_or_ge i n with h | h
          · have := (ih ((List.range i).filter p).length i).2 ⟨h, h2, rfl⟩
            have := (List.getElem?_eq_some_iff.1 this).1
            omega
          · obtain rfl : i = n := by omega
            rw [show j - ((List.range i).filter p).length = 0 by omega]
            rfl
      · have e : List.filter p [n] = [] := by simp [hp]
        rw [e]
        constructor
        · intro h
          cases h
        · rintro ⟨h1, h2, h3⟩
          exfalso
          rcases Nat.lt_or_ge i n with h | h
          · have := (ih ((List.range i).filter p).length i).2 ⟨h, h2, rfl⟩
            have := (List.getElem?_eq_some_iff.1 this).1
            omega
          · obtain rfl : i = n := by omega
            exact hp h2
theorem ksD_place (d : DiskM) (j i : Nat) : (ksD d)[j]? = some i ↔ i < d.sec.length ∧ penD d.pen i ≠ [] ∧ turnD d i = j := by
  unfold ksD turnD
  rw [filter_place]
  simp
theorem ksD_at {d : DiskM} {j : Nat} (h : j < (ksD d).length) : (ksD d).getD j 0 < d.sec.length ∧ penD d.pen ((ksD d).getD j 0) ≠ [] ∧ turnD d ((ksD d).getD j 0) = j := by
  refine (ksD_place d j _).1 ?_
  rw [List.getD_eq_getElem?_getD, List.getElem?_eq_getElem h]
  rfl
theorem ksD_mem (d : DiskM) (i : Nat) : i ∈ ksD d ↔ i < d.sec.length ∧ penD d.pen i ≠ [] := by unfold ksD; simp
theorem ksD_len (d : DiskM) : (ksD d).length ≤ d.sec.length := by
  unfold ksD
  exact Nat.le_trans (List.length_filter_le _ _) (by simp)
/-- the sectors, when the first j of those with something pending have crashed -/
def secC (d : DiskM) (keep : List Nat) (j : Nat) : List (List Nat) := (List.range d.sec.length).map fun i => if turnD d i < j then crashS d keep i else d.sec.getD i []
theorem secC_len (d : DiskM) (keep : List Nat) (j : Nat) : (secC d keep j).length = d.sec.length := by simp [secC]
theorem secC_at (d : DiskM) (keep : List Nat) (j : Nat) {i : Nat} (h : i < d.sec.length) : (secC d keep j).getD i [] = if turnD d i < j then crashS d keep i else d.sec.getD i [] := range_getD h
theorem secC_start (d : DiskM) (keep : List Nat) : secC d keep 0 = d.sec := by
  refine listL_ext (secC_len d keep 0) fun i hi => ?_
  rw [secC_len] at hi
  rw [secC_at d keep 0 hi, if_neg (Nat.not_lt_zero _)]
theorem secC_step (d : DiskM) (keep : List Nat) {j i : Nat} (hk : (ksD d)[j]? = some i) : secC d keep (j + 1) = (secC d keep j).set i (crashS d keep i) := by
  obtain ⟨h1, h2, h3⟩ := (ksD_place d j i).1 hk
  refine listL_ext (by rw [List.length_set, secC_len, secC_len]) fun a ha => ?_
  rw [secC_len] at ha
  rw [secC_at d keep _ ha, getD_setL _ (by rw [secC_len]; exact h1)]
  by_cases e : i = a
  · subst e
    rw [if_pos rfl, if_pos (by omega)]
  · rw [if_neg e, secC_at d keep j ha]
    by_cases hlt : turnD d a < j
    · rw [if_pos hlt, if_pos (by omega)]
    · rw [if_neg hlt]
      by_cases heq : turnD d a = j
      · rw [if_pos (by omega)]
        unfold crashS
        by_cases hp : penD d.pen a = []
        · rw [if_pos hp]
        · have := (ksD_place d j a).2 ⟨ha, hp, heq⟩
          rw [hk] at this
          exact absurd (Option.some.inj this) e
      · rw [if_neg (by omega)]
theorem secC_end (d : DiskM) (keep : List Nat) : secC d keep (ksD d).length = (List.range d.sec.length).map (crashS d keep) := by
  refine listL_ext (by rw [secC_len]; simp) fun i hi => ?_
  rw [secC_len] at hi
  rw [secC_at d keep _ hi, range_getD hi]
  by_cases hp : penD d.pen i = []
  · unfold crashS
    rw [if_pos hp, ite_self]
  · rw [if_pos]
    have := (ksD_place d (turnD d i) i).2 ⟨hi, hp, rfl⟩
    exact (List.getElem?_eq_some_iff.1 this).1
theorem secC_now (d : DiskM) (keep : List Nat) {j i : Nat} (hk : (ksD d)[j]? = some i) : (secC d keep j).getD i [] = d.sec.getD i [] := by
  obtain ⟨h1, h2, h3⟩ := (ksD_place d j i).1 hk
  rw [secC_at d keep j h1, if_neg (by omega)]
theorem crash_now (d : DiskM) (keep : List Nat) {j i : Nat} (hk : (ksD d)[j]? = some i) : crashS d keep i = tornS (d.sec.getD i []) (penD d.pen i) (keepD keep j) := by
  obtain ⟨h1, h2, h3⟩ := (ksD_place d j i).1 hk
  unfold crashS
  rw [if_neg h2, h3]
theorem dkb_secC {d : DiskM} (hb : DkB d) (keep : List Nat) (j : Nat) : DkB (secS d (secC d keep j)) := by
  have hc : ∀ i, i < d.sec.length → (crashS d keep i).length = 32 ∧ Bys (crashS d keep i) := fun i hi => by
    unfold crashS
    split
    · exact ⟨getD_mem32 hb.ok hi, getD_secB hb.bys.1 i⟩
    · exact ⟨torn_len (getD_mem32 hb.ok hi) fun x hx => (hb.ok.pen _ (pen_mem hx)).1, torn_bys (getD_secB hb.bys.1 i) fun x hx => hb.bys.2 _ (pen_mem hx)⟩
  refine dkb_sec hb (secC_len d keep j) fun s hs => ?_
  obtain ⟨i, hi, rfl⟩ := List.mem_map.1 hs
  have hi := List.mem_range.1 hi
  split
  · exact hc i hi
  · exact ⟨getD_mem32 hb.ok hi, getD_secB hb.bys.1 i⟩
theorem keepD_lt {keep : List Nat} (h : Bys keep) (k : Nat) : keepD keep k < 256 := by
  unfold keepD
  split
  · decide
  · exact h _
/-! ### the keys as they come sorted -/
def ksI (d : DiskM) : List Int := (ksD d).map fun (i : Nat) => (i : Int)
theorem ksI_rise (d : DiskM) : (ksI d).Pairwise (· < ·) := by
  unfold ksI ksD
  refine List.pairwise_map.2 ?_
  refine (List.Pairwise.filter _ List.pairwise_lt_range).imp ?_
  intro a b h
  omega
theorem sorted_ks {w : World} {M k : Nat} {E : DataW Unit} {V : Nat → Value} {d : DiskM} (h : PenW w M k E d.sec.length V d.pen) (hok : DiskOk d) {ss : List Int} (hp : ss.Perm (intKeys E)) : ss.mergeSort (fun x y => decide (x ≤ y)) = ksI d := by
  obtain ⟨es, hE, hpw, _⟩ := h.map.entries law_int
  obtain ⟨es2, hE2, hko⟩ := h.map.keysOf
  obtain rfl : es = es2 := by rw [hE] at hE2; simpa using hE2
  have hk : ∀ p ∈ es, ∃ x, p.1 = .int .i64 x := fun p hp => by
    obtain ⟨v, hv⟩ := hko p hp
    obtain ⟨x, _, hx, _⟩ := Maps.keyOf_i64 Try.underlying3 hv
    exact ⟨x, hx⟩
  have hm : ∀ x, x ∈ ksI d ↔ Maps.has (.map es : DataW Unit) (.int .i64 x) = true := fun x => by
    rw [← hE]
    unfold ksI
    rw [List.mem_map]
    constructor
    · rintro ⟨i, hi, rfl⟩
      have h1 := ((ksD_mem d i).1 hi).2
      have h2 := h.has i
      show Maps.has E (kI i) = true
      rw [h2]
      simpa using h1
    · intro hx
      obtain ⟨i, hi, e⟩ := h.keys _ hx
      have hxi : x = (i : Int) := by unfold kI at e; simpa using e
      refine ⟨i, (ksD_mem d i).2 ⟨hi, ?_⟩, hxi.symm⟩
      have h2 := h.has i
      rw [e] at hx
      rw [h2] at hx
      simpa using hx
  have hnd : (ksI d).Nodup := (ksI_rise d).imp (fun {a b} h e => by omega)
  have hperm : (ksI d).Perm (intKeys (.map es : DataW Unit)) := perm_intKeys hpw hk hnd hm
  rw [hE] at hp
  rw [mergeSort_of_perm_i (hp.trans hperm.symm)]
  refine List.mergeSort_of_pairwise ((ksI_rise d).imp fun {a b} h => ?_)
  simpa using Int.le_of_lt h
end Go.Proofs.Ytccplgicfbfjiaa
namespace Go.Proofs.Ytccplgicfbfjiaa
open Go.RowKit
open Go.Maps Go.Sort Go.Shelf
set_option linter.unusedVariables false

theorem d_keys (M : Nat) (w : World) : Calls Try.prog 21 #[.map (some M)] w fun e w' => e = .returned (.func (.func 42) #[] #[.pointer (some ⟨w.heap.size, 0, none⟩)]) ∧ w' = w.alloc (.cells #[.map (some M)] 43) :=
  (callsIn_wide (n := 5)).1 (AnyZI.keys_in keysA Fence.wide 5 trivial rfl (some M) w)
theorem d_sorted {w : World} {M k : Nat} {E : DataW Unit} (hown : w.ownsMap Try.prog 3 hdrR M k E) (hk : k ≤ 100000) :
    Calls Try.prog 20 #[.func (.func 42) #[] #[.pointer (some ⟨w.heap.size, 0, none⟩)]] (w.alloc (.cells #[.map (some M)] 43)) fun e w' => ∃ (v : Value) (ss : List Int), e = .returned v ∧ ss.Perm (intKeys E) ∧
      w'.ownsRow (w.heap.size + 1) 3 1 v ss.length ((ss.mergeSort (fun x y => decide (x ≤ y))).map encZ) ∧ (v = .slice none 0 0 ↔ ss = []) ∧ Below (w.heap.size + 1) (w.alloc (.cells #[.map (some M)] 43)) w' := by
  have hsz := hown.size_le
  have hmax : Maps.size E ≤ maxLen := by unfold maxLen; omega
  have hbytes : Maps.size E * 8 ≤ 140737488355328 := by omega
  have hbl := hown.lt
  have hseq : SeqGives Fence.wide 2 Try.prog 42 #[.pointer (some ⟨w.heap.size, 0, none⟩)] encZ (fun ss => ss.Perm (intKeys E)) (Maps.size E) (w.alloc (.cells #[.map (some M)] 43)) :=
    AnyZI.keys_gives (ρ := keysA_ren) { keysA with } Fence.wide _ trivial rfl (by omega) w.heap.size M k E _ (by simp) (by simp) (by
      obtain ⟨es, clock, hb, Ft, hs, hD⟩ := hown
      exact ⟨es, clock, (Below.heap_alloc _ _ M hbl).trans hb, Ft, hs, hD⟩)
  have cS := AnyZI.sorted_in sortedA Fence.wide 5 trivial trivial trivial trivial rfl (by omega) (sortsA _) (enters_of Try.func41 (by kernel_rfl) rfl) 42 #[.pointer (some ⟨w.heap.size, 0, none⟩)] trivial (enters_of Try.func42 (by kernel_rfl) rfl) _ _ hmax hbytes _ hseq
  change CallsIn _ _ Try.prog 20 _ _ _ at cS
  refine ((callsIn_wide (n := 5)).1 cS).mono ?_
  rintro e w' ⟨v, ss, h1, h2, h3, h4, h5⟩
  have hz : (w.alloc (.cells #[.map (some M)] 43)).heap.size = w.heap.size + 1 := by simp
  rw [hz] at h3 h5
  exact ⟨v, ss, h1, h2, h3, h4, h5⟩
/-- numbers as rows of one cell -/
def rowsNZ (l : List Int) : List (List Value) := l.map fun n => [.int .i64 n]
theorem rowsNZ_flat (l : List Int) : (rowsNZ l).flatten = l.map encZ := by
  unfold rowsNZ
  induction l with
  | nil => rfl
  | cons a l ih => rw [List.map_cons, List.flatten_cons, ih]; rfl
theorem Sl.same {w w' : World} {k : Nat} {p : Option Addr} {n c : Nat} {rows : List (List Value)} (h : Sl w k (.slice p n c) rows) (hz : w.heap.size ≤ w'.heap.size) (hs : ∀ a, p = some a → 0 < n → w'.heap[a.block]? = w.heap[a.block]?) : Sl w' k (.slice p n c) rows := by
  obtain ⟨h1, p', cap, h2, h3⟩ := h
  cases h2
  refine ⟨h1, p, c, rfl, fun i r hr => ?_⟩
  obtain ⟨a, q1, q2, q3⟩ := h3 i r hr
  have hi : i < rows.length := (List.getElem?_eq_some_iff.1 hr).1
  refine ⟨a, q1, Nat.lt_of_lt_of_le q2 hz, fun j x hx => ?_⟩
  have := q3 j x hx
  unfold World.cell? at this ⊢
  rw [add_block, hs a q1 (by omega)]
  rw [add_block] at this
  exact this
end Go.Proofs.Ytccplgicfbfjiaa
namespace Go.Proofs.Ytccplgicfbfjiaa
open Go.RowKit
set_option linter.unusedVariables false

variable {w : World} {base D S M k : Nat} {E : DataW Unit} {V : Nat → Value} {q : Option (Nat × Int)} {d : DiskM}
def crS (D S M n i j kb : Nat) (A R : List Value) (vi vk : Value) (o : Nat) (v : Value) (_ : World) : Prop :=
  match o with
  | 0 | 1 | 5 | 6 | 12 | 13 => v = .pointer (some ⟨D, 0, none⟩)
  | 2 | 7 => v = .pointer (some ⟨D, 0, none⟩)
  | 14 => v = .pointer (some ⟨D, 1, none⟩)
  | 3 | 8 => v = .slice (some ⟨S, 0, none⟩) n n
  | 4 | 9 | 16 => v = .int .i64 (i : Int)
  | 10 | 22 => v = .pointer (some ⟨S, i * 32, none⟩)
  | 11 => v = .agg A.toArray
  | 15 => v = .map (some M)
  | 17 => v = vi
  | 18 => v = vk
  | 19 => v = .int .i64 (j : Int)
  | 20 => v = .int .u8 (kb : Int)
  | 21 => v = .agg R.toArray
  | _ => True
set_option maxRecDepth 100000 in
set_option maxHeartbeats 4000000 in
theorem d_Crash (h : DkW w base D S M k E V q d) (hb : DkB d) (keep : List Nat) (p : Option Addr) (c : Nat) (hk : keep.length ≤ 1000) (hy : Bys keep) (hS : Sl w 1 (.slice p keep.length c) (rowsU .u8 keep))
    (hka : 0 < keep.length → ∀ a, p = some a → ¬ foot D S M V q a.block) (d' : DiskM) (hd : crashD d keep = d') :
    Calls Try.prog 10 #[ptD D, .slice p keep.length c] w fun x w' => x = .returned (.tuple #[]) ∧ ∃ k' E' V' q', DkW w' base D S M k' E' V' q' d' ∧ Turn base w w' (foot D S M V q) (foot D S M V' q') := by
  have hlen := hb.sec
  have hk1 : k ≤ 100000 := by rw [h.len]; exact hb.pen
  have HKY := Lib.hid (d_keys M w)
  have HSO := Lib.hid (d_sorted h.pen.map hk1)
  have c1 := h.c1
  have H := Lib.hid h
  have HB := Lib.hid hb
  have HKL := Lib.hid hk
  have HKS := Lib.hid hS
  have HKA := Lib.hid hka
  have HD := Lib.hid hd
  have HY := Lib.hid hy
  have HLN := Lib.hid hlen
  have hkl := ksD_len d
  unfold ptD
  clear h hb hk hS hka hd hy hk1
  go_enter Try.func10, Try.ntmps10
  go_wp2_with fail
  (with_reducible refine HKY.out.mono ?_)
  rintro e w1 ⟨rfl, rfl⟩
  go_wp2_with fail
  (with_reducible refine HSO.out.mono ?_)
  rintro e w2 ⟨v, ss, rfl, hperm, hown, _, hb2⟩
  obtain ⟨pk, ck, rfl⟩ := own_slice hown
  have hsort := sorted_ks H.out.pen HB.out.ok hperm
  rw [hsort] at hown
  have hssl : ss.length = (ksD d).length := by
    have e1 := congrArg List.length hsort
    rw [List.length_mergeSort] at e1
    rw [e1]
    unfold ksI
    rw [List.length_map]
  obtain ⟨m, hm⟩ : ∃ m, (ksD d).length = m := ⟨_, rfl⟩
  rw [hssl, hm] at hown ⊢
  rw [hm] at hkl
  have hO2 : OwnR w2 (w.heap.size + 1) 3 1 (.slice pk m ck) (rowsNZ (ksI d)) := by
    refine ⟨fun r hr => ?_, ?_⟩
    · obtain ⟨x, _, rfl⟩ := List.mem_map.1 hr
      rfl
    · rw [rowsNZ_flat]
      have : (rowsNZ (ksI d)).length = m := by unfold rowsNZ ksI; rw [List.length_map, List.length_map, hm]
      rw [this]
      exact hown
  have hB2 : Below w.heap.size w w2 := ((Below.refl w.heap.size w).alloc (Nat.le_refl _) (.cells #[.map (some M)] 43)).trans (hb2.mono (Nat.le_succ _))
  obtain ⟨h2, t2⟩ := H.out.turn hB2
  have hz2 : w.heap.size + 1 ≤ w2.heap.size := by have := hb2.size; simp at this; omega
  have H2 := Lib.hid h2
  have T2 := Lib.hid t2
  have O2 := Lib.hid hO2
  have HMM := Lib.hid hm
  have HZ2 := Lib.hid hz2
  clear h2 t2 hO2 hB2 hb2 hown hperm hsort hssl hm HSO HKY c1 hz2
  go_wp2_with fail
  go_loopw [13] (fun u wr => ∃ j : Nat, u = .int .i64 (j : Int) ∧ j ≤ m ∧ DkW wr base D S M k E V q (secS d (secC d keep j)) ∧ Turn base w wr (foot D S M V q) (foot D S M V q) ∧ OwnR wr (w.heap.size + 1) 3 1 (.slice pk m ck) (rowsNZ (ksI d))) (fun u _ => m - (intOf u).toNat)
  case atStart => exact ⟨0, rfl, Nat.zero_le _, by rw [secC_start]; exact H2.out, T2.out, O2.out⟩
  case round =>
    obtain ⟨j, rfl, hj, hw, ht, ho⟩ := hrel
    by_cases hjm : j < m
    · have d1 : (j : Int) < (m : Int) := by omega
      obtain ⟨g, cap, rest, hv, hg, hbk⟩ := ho.blkR (by have := HMM.out; unfold rowsNZ ksI; rw [List.length_map, List.length_map]; omega)
      have hrl : (rowsNZ (ksI d)).length = m := by unfold rowsNZ ksI; rw [List.length_map, List.length_map, HMM.out]
      rw [hrl] at hv
      obtain ⟨rfl, rfl⟩ : pk = some ⟨g, 0, none⟩ ∧ ck = cap := by
        simp only [Value.slice.injEq] at hv
        exact ⟨hv.1, hv.2.2⟩
      have hjk : j < (ksD d).length := by rw [HMM.out]; exact hjm
      obtain ⟨i, hi⟩ : ∃ i, (ksD d)[j]? = some i := ⟨_, List.getElem?_eq_getElem hjk⟩
      have hck : wr.cell? ⟨g, j, none⟩ = some (.int .i64 (i : Int)) := by
        rw [hbk.cell, rowsNZ_flat]
        unfold ksI
        rw [List.getElem?_append_left (by rw [List.length_map, List.length_map]; exact hjk), List.getElem?_map, List.getElem?_map, hi]
        rfl
      obtain ⟨hi0, hpi, htj⟩ := (ksD_place d j i).1 hi
      have hi2 : i ≤ 100000 := by omega
      have hiL : i < (secS d (secC d keep j)).sec.length := by show i < (secC d keep j).length; rw [secC_len]; exact hi0
      have hbL := dkb_secC HB.out keep j
      have hnow := secC_now d keep hi
      have hcn := crash_now d keep hi
      have hstep := secC_step d keep hi
      obtain ⟨a0, ha0⟩ : ∃ a0, d.sec.getD i [] = a0 := ⟨_, rfl⟩
      rw [ha0] at hnow hcn
      have hcl : (crashS d keep i).length = 32 := by
        rw [hcn, ← ha0]
        exact torn_len (getD_mem32 HB.out.ok hi0) fun x hx => (HB.out.ok.pen _ (pen_mem hx)).1
      obtain ⟨s, hs⟩ : ∃ s, crashS d keep i = s := ⟨_, rfl⟩
      rw [hs] at hcn hstep hcl
      obtain ⟨kb, hkb⟩ : ∃ kb, keepD keep j = kb := ⟨_, rfl⟩
      have hkb2 : kb < 256 := by rw [← hkb]; exact keepD_lt HY.out j
      rw [hkb] at hcn
      obtain ⟨gb, cb, hvi⟩ : ∃ b c, V i = .slice (some ⟨b, 0, none⟩) (penD d.pen i).length c := by
        rcases H.out.pen.shape i with ⟨e, _⟩ | ⟨_, b, c, e⟩
        · exact absurd e hpi
        · exact ⟨b, c, e⟩
      have hpl : (penD d.pen i).length ≤ 100000 := Nat.le_trans (List.length_filterMap_le _ _) HB.out.pen
      have hpp : 0 < (penD d.pen i).length := List.length_pos_iff.2 hpi
      have ha32 : a0.length = 32 := by rw [← ha0]; exact getD_mem32 HB.out.ok hi0
      have hCR := fun W (hx : DkW W base D S M k E V q (secS d (secC d keep j))) => d_crashed a0 ha32 (penD d.pen i) (fun x hx => (HB.out.ok.pen _ (pen_mem hx)).1) hpl gb cb kb hkb2 W (by rw [← hvi]; exact (hx.own i).sl) hpp
      rw [← hcn] at hCR
      have hTO := fun W (hx : Sl W 1 (.slice p keep.length c) (rowsU .u8 keep)) => d_told keep p c j kb hkb (by have := HKL.out; omega) (by omega) W hx
      have hLK := fun W (hx : DkW W base D S M k E V q (secS d (secC d keep j))) => hx.pen.look hi2
      rw [hvi] at hLK
      obtain ⟨pl, hpl2⟩ : ∃ pl, (penD d.pen i).length = pl := ⟨_, rfl⟩
      rw [hpl2] at hCR hLK
      obtain ⟨R, hR⟩ : ∃ R, rowB s = R := ⟨_, rfl⟩
      obtain ⟨A, hA⟩ : ∃ A, rowB a0 = A := ⟨_, rfl⟩
      have hRl : R.length = 32 := by rw [← hR, rowB_len, hcl]
      have hAl : A.length = 32 := by rw [← hA, rowB_len, ha32]
      have hR1 : R.toArray.all (·.oneCell') = true := by rw [← hR]; exact rowB_one _
      rw [hR, hA] at hCR
      have hRow := fun W (hx : DkW W base D S M k E V q (secS d (secC d keep j))) => row_at hiL (hx.slS hbL.ok)
      rw [show (secS d (secC d keep j)).sec.getD i [] = a0 from hnow, hA] at hRow
      have hst := fun W (hx : DkW W base D S M k E V q (secS d (secC d keep j))) => hx.stored hbL hiL s hcl
      rw [hR] at hst
      have hnew : secS (secS d (secC d keep j)) ((secS d (secC d keep j)).sec.set i s) = secS d (secC d keep (j + 1)) := by rw [hstep]; rfl
      rw [hnew] at hst
      have hsz : (secS d (secC d keep j)).sec.length = d.sec.length := secC_len _ _ _
      have hKr : Sl wr 1 (.slice p keep.length c) (rowsU .u8 keep) := HKS.out.same ht.b.size fun a e hn => ht.out a.block (HKS.out.lt a e hn) (HKA.out hn a e)
      have HW := Lib.hid hw
      have HT := Lib.hid ht
      have HO := Lib.hid ho
      have HCR := Lib.hid hCR
      have HTO := Lib.hid hTO
      have HLK := Lib.hid hLK
      have HRW := Lib.hid hRow
      have HST := Lib.hid hst
      have HSZ := Lib.hid hsz
      have HRl := Lib.hid hRl
      have HAl := Lib.hid hAl
      have HR1 := Lib.hid hR1
      have HKR := Lib.hid hKr
      have HGB := Lib.hid hg
      have hin : (i : Int) < (d.sec.length : Int) := by omega
      have HLK2 := Lib.hid (show pl ≤ 100000 by omega)
      clear hw ht ho hCR hTO hLK hRow hst hsz hRl hAl hR1 hKr hg hbk hv hrl hjk hi hi0 hpi htj hi2 hiL hbL hnow hcn hstep ha0 hcl hs hkb hkb2 hvi hpl hpp ha32 hpl2 hR hA hnew
      generalize hn : d.sec.length = n at *
      go_wp2_with fail
      refine region_free_last 23 mixed (by kernel_rfl) (by kernel_rfl) (fun u => #[_, _, _, _, _, _, _, _, _, _, _, _, _, _, _, _, _, _, u 0, u 1, u 2, u 3, u 4, u 5, u 6, u 7, u 8, u 9, u 10, u 11, u 12, u 13, u 14, u 15, u 16, u 17, u 18, u 19, u 20, u 21, u 22, _, _, _, _, _, _, _, _, _]) [] (fun o => match o with | 0 => _ | 1 => _ | 2 => _ | 3 => _ | 4 => _ | 5 => _ | 6 => _ | 7 => _ | 8 => _ | 9 => _ | 10 => _ | 11 => _ | 12 => _ | 13 => _ | 14 => _ | 15 => _ | 16 => _ | 17 => _ | 18 => _ | 19 => _ | 20 => _ | 21 => _ | 22 => _ | _ => undef) rfl
        (NewBut wr) (show Below _ _ _ from (Below.refl _ _).drew) (crS D S M n i j kb A R (.slice (some ⟨gb, 0, none⟩) pl cb) (.slice p keep.length c)) ?mono ?step ?last
      case mono => exact fun o v W W' h _ _ _ => h
      case step =>
        intro u W o x ho hx hC hd
        have hr := Below.refl W.heap.size W
        have hDW := HW.out.below hC
        have c0 := hDW.c0
        rw [HSZ.out] at c0
        have c1 := hDW.c1
        have hL := HLK.out W hDW
        have HDW := Lib.hid hDW
        have HKW := Lib.hid (HKR.out.below hC)
        clear hDW
        rcases o with _ | _ | _ | _ | _ | _ | _ | _ | _ | _ | _ | _ | _ | _ | _ | _ | _ | _ | _ | _ | _ | _ | _ | o
        all_goals try (simp only [List.getElem?_cons_zero, List.getElem?_cons_succ, Option.some.injEq] at hx; subst hx)
        · go_wp2_with fail
          exact ⟨_, rfl, rfl, hC, hr⟩
        · have h1 : u 0 = .pointer (some ⟨D, 0, none⟩) := hd ⟨0, .data⟩ (by simp) rfl
          rw [h1]; go_wp2_with fail
          exact ⟨_, by simp [upd, h1], rfl, hC, hr⟩
        · have h1 : u 1 = .pointer (some ⟨D, 0, none⟩) := hd ⟨1, .data⟩ (by simp) rfl
          rw [h1]; go_wp2_with fail
          exact ⟨_, by simp [upd, h1], rfl, hC, hr⟩
        · have h1 : u 2 = .pointer (some ⟨D, 0, none⟩) := hd ⟨2, .data⟩ (by simp) rfl
          rw [h1]; go_wp2_with fail
          exact ⟨_, by simp [upd, h1], rfl, hC, hr⟩
        · go_wp2_with fail
          exact ⟨_, rfl, rfl, hC, hr⟩
        · go_wp2_with fail
          exact ⟨_, rfl, rfl, hC, hr⟩
        · have h1 : u 5 = .pointer (some ⟨D, 0, none⟩) := hd ⟨5, .data⟩ (by simp) rfl
          rw [h1]; go_wp2_with fail
          exact ⟨_, by simp [upd, h1], rfl, hC, hr⟩
        · have h1 : u 6 = .pointer (some ⟨D, 0, none⟩) := hd ⟨6, .data⟩ (by simp) rfl
          rw [h1]; go_wp2_with fail
          exact ⟨_, by simp [upd, h1], rfl, hC, hr⟩
        · have h1 : u 7 = .pointer (some ⟨D, 0, none⟩) := hd ⟨7, .data⟩ (by simp) rfl
          rw [h1]; go_wp2_with fail
          exact ⟨_, by simp [upd, h1], rfl, hC, hr⟩
        · go_wp2_with fail
          exact ⟨_, rfl, rfl, hC, hr⟩
        · have h1 : u 8 = .slice (some ⟨S, 0, none⟩) n n := hd ⟨8, .data⟩ (by simp) rfl
          have h2 : u 9 = .int .i64 (i : Int) := hd ⟨9, .data⟩ (by simp) rfl
          rw [h1, h2]; go_wp2_with fail
          exact ⟨_, by simp [upd, h1, h2], rfl, hC, hr⟩
        · have h1 : u 10 = .pointer (some ⟨S, i * 32, none⟩) := hd ⟨10, .data⟩ (by simp) rfl
          rw [h1]; go_wp2_with (refine wpList_load_addr rfl 64 _ rfl ⟨S, i * 32, none⟩ rfl A (HRW.out W HDW.out) Try.underlying64 rfl (by rw [size_sec, HAl.out]) ?_)
          exact ⟨_, by simp [upd, h1], rfl, hC, hr⟩
        · go_wp2_with fail
          exact ⟨_, rfl, rfl, hC, hr⟩
        · have h1 : u 12 = .pointer (some ⟨D, 0, none⟩) := hd ⟨12, .data⟩ (by simp) rfl
          rw [h1]; go_wp2_with fail
          exact ⟨_, by simp [upd, h1], rfl, hC, hr⟩
        · have h1 : u 13 = .pointer (some ⟨D, 0, none⟩) := hd ⟨13, .data⟩ (by simp) rfl
          rw [h1]; go_wp2_with fail
          exact ⟨_, by simp [upd, h1], rfl, hC, hr⟩
        · have h1 : u 14 = .pointer (some ⟨D, 1, none⟩) := hd ⟨14, .data⟩ (by simp) rfl
          rw [h1]; go_wp2_with fail
          exact ⟨_, by simp [upd, h1], rfl, hC, hr⟩
        · go_wp2_with fail
          exact ⟨_, rfl, rfl, hC, hr⟩
        · have h1 : u 15 = .map (some M) := hd ⟨15, .data⟩ (by simp) rfl
          have h2 : u 16 = .int .i64 (i : Int) := hd ⟨16, .data⟩ (by simp) rfl
          rw [h1, h2]; go_wp2_with fail
          exact ⟨_, by simp [upd, h1, h2], rfl, hC, hr⟩
        · go_wp2_with fail
          exact ⟨_, rfl, rfl, hC, hr⟩
        · go_wp2_with fail
          exact ⟨_, rfl, rfl, hC, hr⟩
        · have h1 : u 18 = .slice p keep.length c := hd ⟨18, .data⟩ (by simp) rfl
          have h2 : u 19 = .int .i64 (j : Int) := hd ⟨19, .data⟩ (by simp) rfl
          rw [h1, h2]; go_wp2_with fail
          (with_reducible refine (HTO.out W HKW.out).mono ?_)
          rintro e w3 ⟨rfl, rfl⟩
          go_wp2_with fail
          exact ⟨_, by simp [upd, h1, h2], rfl, hC, hr⟩
        · have h1 : u 11 = .agg A.toArray := hd ⟨11, .data⟩ (by simp) rfl
          have h2 : u 17 = .slice (some ⟨gb, 0, none⟩) pl cb := hd ⟨17, .data⟩ (by simp) rfl
          have h3 : u 20 = .int .u8 (kb : Int) := hd ⟨20, .data⟩ (by simp) rfl
          rw [h1, h2, h3]; go_wp2_with fail
          (with_reducible refine (HCR.out W HDW.out).mono ?_)
          rintro e w3 ⟨rfl, hb3⟩
          go_wp2_with fail
          exact ⟨_, by simp [upd, h1, h2, h3], rfl, hC.trans (hb3.mono hC.size), hb3⟩
        · have h1 : u 3 = .slice (some ⟨S, 0, none⟩) n n := hd ⟨3, .data⟩ (by simp) rfl
          have h2 : u 4 = .int .i64 (i : Int) := hd ⟨4, .data⟩ (by simp) rfl
          rw [h1, h2]; go_wp2_with fail
          exact ⟨_, by simp [upd, h1, h2], rfl, hC, hr⟩
        · omega
      case last =>
        intro u W o hx hC hS
        simp only [List.getElem?_cons_zero, List.getElem?_cons_succ, Option.some.injEq] at hx
        subst hx
        have h7 : u 21 = .agg R.toArray := hS 21 (by decide)
        have h8 : u 22 = .pointer (some ⟨S, i * 32, none⟩) := hS 22 (by decide)
        obtain ⟨k1, k2, k3⟩ := HST.out W (HW.out.below hC)
        have K1 := Lib.hid k1
        have K2 := Lib.hid k2
        have hTw : Turn base wr W (foot D S M V q) (foot D S M V q) := Turn.of_below hC (by have := HW.out.blk.lt; have := HW.out.hD; omega)
        have K3 := Lib.hid (HT.out.trans (hTw.trans k3))
        have hbl := below_setCells (b := S) (B := S) (x := W) (Nat.le_refl _) R (i * 32) W (Below.refl _ _)
        have hgS : W.grownBy (W.setCells S (i * 32) R) (some S) := ⟨hbl.os, hbl.tape, hbl.output, hbl.size, fun b _ hb => heap_setCells (fun e => hb (by rw [e])) _ _ _⟩
        have K4 := Lib.hid ((HO.out.keep hC).grownO hgS (fun b e e2 => by
          have e3 := Option.some.inj e2
          have h5 := (HO.out.lt b e).1
          have h6 := H.out.sec.lt
          omega))
        clear k1 k2 k3 hTw hbl hgS hS hC
        rw [h7, h8]
        go_wp2_with (refine wpList_store_sec rfl 64 _ _ rfl S (i * 32) rfl R rfl K1.out HRl.out size_sec HR1.out ?_)
        go_roundw
        case rel => exact ⟨j + 1, by go_num, by omega, K2.out, K3.out, K4.out⟩
        case measure => (simp [intOf]; try omega)
    · obtain rfl : j = m := by omega
      have hfin := secC_end d keep
      rw [HMM.out] at hfin
      have d1 : ¬ (j : Int) < (j : Int) := by omega
      have HLs := Lib.hid (fun w => d_lasting w)
      have c1r := hw.c1
      have HMr := Lib.hid hw.pen.map
      have HW := Lib.hid hw
      have HT := Lib.hid ht
      have HF := Lib.hid hfin
      clear hw ht ho hfin
      go_wp2_with (refine wpList_clear_own _ rfl _ 43 rfl 3 42 Try.underlying43 hdrR M k E rfl HMr.out ?_; intro w5 hown5 hg5)
      obtain ⟨h5, t5⟩ := HW.out.cleared hown5 hg5
      have c2 := h5.c2
      have f2 := h5.blk.free 2
      have h6 : DkW (w5.setCell ⟨D, 2, none⟩ (pwV none)) base D S M 0 (.map []) noVZ none d' := h5.setPower (by rw [← HD.out]; show _ = (secC d keep j); rw [HF.out]; rfl) (by rw [← HD.out]; rfl) (by rw [← HD.out]; rfl) (fun L l e => by cases e) (fun L l e => by cases e)
      have t6 : Turn base w (w5.setCell ⟨D, 2, none⟩ (pwV none)) (foot D S M V q) (foot D S M noVZ none) := by
        have hb5 := t5.b.size
        have hbz := HW.out.blk.lt
        have hbd := HW.out.hD
        have tt := HT.out.trans (t5.trans (Turn.of_grown (F := foot D S M noVZ q) (grown_setCell w5 ⟨D, 2, none⟩ (pwV none)) (by omega) (fun b e => by cases e; exact ⟨.inl rfl, h5.hD⟩)))
        refine ⟨tt.b, tt.out, fun b hb => tt.new b ?_⟩
        rcases hb with e | e | e | e | e
        · exact .inl e
        · exact .inr (.inl e)
        · exact .inr (.inr (.inl e))
        · cases e
        · exact .inr (.inr (.inr (.inr e)))
      have H6 := Lib.hid h6
      have T6 := Lib.hid t6
      clear h5 t5 h6 t6 hown5 hg5
      unfold pwV at H6 T6
      go_wp2_with ((with_reducible refine (HLs.out _).mono ?_); rintro e w6 ⟨rfl, rfl⟩; unfold pwV)
      go_end0
      exact ⟨rfl, _, _, _, _, H6.out, T6.out⟩
end Go.Proofs.Ytccplgicfbfjiaa
