/- Acts on disks as rows, as arguments; what stays while other sectors are written; the laws' bound. -/
import Derived.Test.YtdpdgmfmjgjmiaaZBnd
import Derived.OpenShut
import Derived.ChangeSame
namespace Go.Proofs.Ytdpdgmfmjgjmiaa
open Go.ChangeShapes Go.WideShapes Go.ChangeAt Go.RowKit
set_option linter.unusedVariables false

structure ActV where
  kind : Int
  i : Int
  s : List Nat
  keep : List Nat
  kp : Option Addr
  kc : Nat
def rowA (a : ActV) : List Value := [.int .i64 a.kind, .int .i64 a.i, .string (tx a.s), .slice a.kp a.keep.length a.kc]
def rowsA (l : List ActV) : List (List Value) := l.map rowA
def noA : ActV := ⟨0, 0, [], [], none, 0⟩
instance : Inhabited ActV := ⟨noA⟩
theorem rowsA_at {l : List ActV} {j : Nat} (h : j < l.length) : (rowsA l)[j]? = some (rowA (l.getD j noA)) := by simp [rowsA, h]
/-- what each act keeps by -/
def KeepIn (w : World) (l : List ActV) : Prop := ∀ a ∈ l, Sl w 1 (.slice a.kp a.keep.length a.kc) (rowsU .u8 a.keep)
theorem KeepIn.below {w w' : World} {l : List ActV} (h : KeepIn w l) (hb : Below w.heap.size w w') : KeepIn w' l := fun a ha => (h a ha).below hb
def ActOk (a : ActV) : Prop := (Lit.int .i64 a.kind).wf = true ∧ (Lit.int .i64 a.i).wf = true ∧ Bys a.s ∧ Bys a.keep
theorem getA_mem {l : List ActV} {j : Nat} (h : j < l.length) : l.getD j noA ∈ l := by
  rw [List.getD_eq_getElem?_getD, List.getElem?_eq_getElem h]
  exact List.getElem_mem _
/-- an act's fields, where the walk asks for them -/
theorem SlA.fields {w : World} {p : Option Addr} {n cap : Nat} {l : List ActV} (h : Sl w 4 (.slice p n cap) (rowsA l)) {j : Nat} (hj : j < l.length) :
    ∃ a : Addr, p = some a ∧ w.cell? (a.add (j * 4)) = some (.int .i64 (l.getD j noA).kind) ∧ w.cell? ⟨(a.add (j * 4)).block, (a.add (j * 4)).off + 1, none⟩ = some (.int .i64 (l.getD j noA).i) ∧ w.cell? ⟨(a.add (j * 4)).block, (a.add (j * 4)).off + 2, none⟩ = some (.string (tx (l.getD j noA).s)) ∧ w.cell? ⟨(a.add (j * 4)).block, (a.add (j * 4)).off + 3, none⟩ = some (.slice (l.getD j noA).kp (l.getD j noA).keep.length (l.getD j noA).kc) := by
  obtain ⟨a, e, hc⟩ := h.row (rowsA_at hj)
  have h0 := hc 0 _ rfl
  rw [Deep.add_add, Nat.add_zero] at h0
  exact ⟨a, e, h0, hc 1 _ rfl, hc 2 _ rfl, hc 3 _ rfl⟩
section
variable {H : Type} {enc : TypeId × Value → H} {w : World} {base : Nat} {spare : Nat → Bool} {held : Bool}
theorem slice_shapeA {t e : TypeId} {fuel : Nat} {v : Value} {x : DataW H × List MemPlace} (ht : Try.prog.underlying t = some (.slice e)) (h : DataW.trod enc Try.prog w base spare held fuel t [v] = some x) : ∃ p n c, v = .slice p n c := by
  rcases Go.Deep.open_slice ht h with ⟨hcs, _⟩ | ⟨a, len, cap, m, n, D, Pl, hcs, _⟩
  · cases hcs; exact ⟨_, _, _, rfl⟩
  · cases hcs; exact ⟨_, _, _, rfl⟩
theorem open_acts {p0 : Option Addr} {len cap : Nat} {d : DataW H} {p : List MemPlace} (h : DataW.Trod enc Try.prog w base spare held 22 (.slice p0 len cap) d p) : ∃ l : List ActV, l.length = len ∧ Sl w 4 (.slice p0 len cap) (rowsA l) ∧ KeepIn w l ∧ ∀ a ∈ l, ActOk a := by
  have ce : Try.prog.cellsOf 33 = 4 := by kernel_rfl
  obtain ⟨m, hm⟩ := h
  have hcells : (Value.slice p0 len cap).cells.toList = [.slice p0 len cap] := rfl
  rw [hcells] at hm
  rcases Deep.open_slice Try.underlying22 hm with ⟨hcs, _⟩ | ⟨a, len', cap', m', n, D, Pl, hcs, hb, hl, hcap, hmm, hx0, hx⟩
  · cases hcs
    exact ⟨[], rfl, Sl.none 4, (fun q h => by simp at h), (fun q h => by simp at h)⟩
  · cases hcs
    have hlm : len ≤ m' := by rw [hmm]; split <;> omega
    have each : ∀ i, i < len → ∃ q : ActV, (∀ j v, (rowA q)[j]? = some v → w.cell? (a.add (i * 4 + j)) = some v) ∧ Sl w 1 (.slice q.kp q.keep.length q.kc) (rowsU .u8 q.keep) ∧ ActOk q := by
      intro i hi
      obtain ⟨cs', h1, h2⟩ := hx i (by omega)
      rw [ce] at h1
      obtain ⟨_, hlen, hcell⟩ := World.cells?_some h1
      obtain ⟨xs, k, hk, hxy, _, hxl, hf⟩ := DataW.trod_struct Try.underlying33 h2
      match xs, hxl, cs', hlen with
      | [y0, y1, y2, y3], _, [v0, v1, v2, v3], _ =>
        have g0 := hf 0 _ rfl
        have g1 := hf 1 _ rfl
        have g2 := hf 2 _ rfl
        have g3 := hf 3 _ rfl
        have c0 : Try.prog.cellsOf 3 = 1 := by kernel_rfl
        have c1 : Try.prog.cellsOf 9 = 1 := by kernel_rfl
        have c2 : Try.prog.cellsOf 31 = 1 := by kernel_rfl
        simp [c0, c1, c2] at g0 g1 g2 g3
        have e0 := hcell 0 (by omega)
        have e1 := hcell 1 (by omega)
        have e2 := hcell 2 (by omega)
        have e3 := hcell 3 (by omega)
        rw [Deep.add_add] at e0 e1 e2 e3
        obtain ⟨x, q0, _, w0⟩ := DataW.trod_int Try.underlying3 g0
        obtain ⟨y, q1, _, w1⟩ := DataW.trod_int Try.underlying3 g1
        obtain ⟨z, q2, _, _⟩ := DataW.trod_string Try.underlying9 g2
        obtain rfl : v0 = .int .i64 x := by simpa using q0
        obtain rfl : v1 = .int .i64 y := by simpa using q1
        obtain rfl : v2 = .string z := by simpa using q2
        obtain ⟨kp, kn, kc, rfl⟩ := slice_shapeA Try.underlying31 g3
        obtain ⟨kl, rfl, ks, kb⟩ := open_u8s (d := y3.1) (p := y3.2) ⟨_, g3⟩
        refine ⟨⟨x, y, sl z, kl, kp, kc⟩, fun j v hj => ?_, ks, w0, w1, sl_bys z, Bys.of kb⟩
        match j, hj with
        | 0, hj => cases hj; simpa using e0
        | 1, hj => cases hj; simpa using e1
        | 2, hj =>
          have : v = .string z := by simpa [rowA, tx_sl] using hj.symm
          rw [this]; simpa using e2
        | 3, hj => cases hj; simpa using e3
        | _ + 4, hj => simp [rowA] at hj
    obtain ⟨q, hq⟩ := Deep.choose_lt each
    refine ⟨(List.range len).map q, by simp, ?_, fun r hr => ?_, fun r hr => ?_⟩
    · unfold rowsA
      rw [List.map_map]
      refine rows_of a len cap _ (fun i hi => rfl) (fun h0 => ?_) (fun i hi j x hj => ?_)
      · have := cell_lt ((hq 0 h0).1 0 _ rfl)
        rwa [add_block] at this
      · exact (hq i hi).1 j x hj
    · obtain ⟨i, hi, rfl⟩ := List.mem_map.1 hr
      exact (hq i (List.mem_range.1 hi)).2.1
    · obtain ⟨i, hi, rfl⟩ := List.mem_map.1 hr
      exact (hq i (List.mem_range.1 hi)).2.2
end
/-! ### what stays -/
structure InvD (F : List Nat) (k j : Nat) (d : DiskM) : Prop where
  n : DkN d (j + 2)
  len : d.sec.length = 6
  sec : d.sec.getD k [] = F
  pen : penD d.pen k = []
theorem inv_write {F : List Nat} {k j : Nat} {d : DiskM} (h : InvD F k j d) {i : Int} (hi : i ≠ (k : Int)) {s : List Nat} (hs : Bys s) : InvD F k (j + 1) (wrD d i s) := by
  refine ⟨dkn_write h.n i hs, by rw [wr_len]; exact h.len, ?_, ?_⟩
  · unfold wrD; split
    · exact h.sec
    · exact h.sec
  · unfold wrD
    split
    · rename_i he
      have hin : inD d i := by
        unfold wrE at he
        by_cases hc : inD d i
        · exact hc
        · simp [hc] at he
      show penD (d.pen ++ [(i.toNat, s)]) k = []
      rw [pen_app, h.pen, pen_other s (by unfold inD at hin; omega)]
      rfl
    · exact h.pen
theorem inv_sync {F : List Nat} {k j : Nat} {d : DiskM} (h : InvD F k j d) (hk : k < 6) : InvD F k (j + 1) (syD d) := by
  refine ⟨dkn_sync h.n, by rw [sy_len]; exact h.len, ?_, ?_⟩
  · unfold syD; split
    · exact h.sec
    · rw [sync_safe (by rw [h.len]; exact hk)]
      unfold readD
      rw [h.pen, last_nil, h.sec]
  · unfold syD; split
    · exact h.pen
    · rfl
theorem inv_crash {F : List Nat} {k j : Nat} {d : DiskM} (h : InvD F k j d) (hk : k < 6) (keep : List Nat) : InvD F k (j + 1) (crashD d keep) := by
  refine ⟨(dkn_crash h.n keep).more (by omega), by rw [crash_len]; exact h.len, ?_, rfl⟩
  rw [crash_safe keep (by rw [h.len]; exact hk)]
  unfold crashS
  rw [if_pos h.pen, h.sec]
theorem inv_cut {F : List Nat} {k j : Nat} {d : DiskM} (h : InvD F k j d) (a : Int) : InvD F k (j + 1) (cutD d a) := ⟨(dkn_cut h.n a).more (by omega), h.len, h.sec, h.pen⟩
theorem inv_more {F : List Nat} {k j : Nat} {d : DiskM} (h : InvD F k j d) : InvD F k (j + 1) d := ⟨h.n.more (by omega), h.len, h.sec, h.pen⟩
theorem inv_safe {F : List Nat} {k j : Nat} {d : DiskM} (h : InvD F k j d) (hk : k < 6) : sfD d (k : Int) = F := by rw [sf_in (by rw [h.len]; exact hk), h.sec]
theorem inv_read {F : List Nat} {k j : Nat} {d : DiskM} (h : InvD F k j d) (hk : k < 6) (keep : List Nat) : rdE (crashD d keep) (k : Int) = (F, 0) := by
  rw [rd_on (by rw [crash_len, h.len]; exact hk) (off_crash _ _), crash_still keep (by rw [h.len]; exact hk) h.pen, h.sec]
/-! ### the bound -/
def heavyA (l : List ActV) : Bool := decide (100 < l.length) || l.any fun a => decide (100 < a.s.length) || decide (50 < a.keep.length)
theorem heavyA_no {l : List ActV} : heavyA l = false ↔ l.length ≤ 100 ∧ ∀ a ∈ l, a.s.length ≤ 100 ∧ a.keep.length ≤ 50 := by
  unfold heavyA
  simp only [Bool.or_eq_false_iff, decide_eq_false_iff_not, List.any_eq_false, Nat.not_lt]
  constructor
  · rintro ⟨h1, h2⟩
    refine ⟨h1, fun a ha => ?_⟩
    have := h2 a ha
    simpa using this
  · rintro ⟨h1, h2⟩
    refine ⟨h1, fun a ha => ?_⟩
    have := h2 a ha
    simp; omega
theorem heavyA_yes {l : List ActV} {b : Bool} (hb : heavyA l = b) (h : 100 < l.length ∨ ∃ a ∈ l, 100 < a.s.length ∨ 50 < a.keep.length) : true = b := by
  cases b with
  | true => rfl
  | false =>
    obtain ⟨h1, h2⟩ := heavyA_no.1 hb
    rcases h with h | ⟨a, ha, h⟩
    · omega
    · have := h2 a ha; omega
set_option maxRecDepth 100000 in
set_option maxHeartbeats 1000000 in
theorem l13_heavy (l : List ActV) (p : Option Addr) (cap : Nat) (b : Bool) (w : World) (hb : heavyA l = b) (hS : Sl w 4 (.slice p l.length cap) (rowsA l)) :
    Calls Try.prog 7 #[.slice p l.length cap] w fun e w' => e = .returned (.bool b) ∧ Below w.heap.size w w' := by
  have HS := Lib.hid hS
  have HB := Lib.hid hb
  clear hS hb
  by_cases h0 : 100 < l.length
  · have g0 : (100 : Int) < (l.length : Int) := by omega
    have e0 : Hid (true = b) := Lib.hid (heavyA_yes HB.out (.inl h0))
    clear h0
    go_enter Try.func7, Try.ntmps7
    go_wp2
    go_ret
    exact ⟨congrArg (fun x => Ending.returned (.bool x)) e0.out, Below.refl _ _⟩
  have g0 : ¬ (100 : Int) < (l.length : Int) := by omega
  have l100 : l.length ≤ 100 := by omega
  clear h0
  go_enter Try.func7, Try.ntmps7
  go_wp2
  go_loopw [3] (fun i wr => ∃ j : Nat, j ≤ l.length ∧ i = .int .i64 (j : Int) ∧ (∀ k, k < j → (l.getD k noA).s.length ≤ 100 ∧ (l.getD k noA).keep.length ≤ 50) ∧ Below w.heap.size w wr) (fun i _ => l.length - (intOf i).toNat)
  case atStart => exact ⟨0, by omega, rfl, (fun k h => by omega), Below.refl _ _⟩
  case round =>
    obtain ⟨j, hj, rfl, hk, gb⟩ := hrel
    have HK := Lib.hid hk
    clear hk
    by_cases hlt : j < l.length
    · obtain ⟨a, rfl, c0, c1, c2, c3⟩ := SlA.fields (HS.out.below gb) hlt
      have d1 : (j : Int) < (l.length : Int) := by omega
      have hz := tx_size (l.getD j noA).s
      obtain ⟨X, hX⟩ : ∃ X, tx (l.getD j noA).s = X := ⟨_, rfl⟩
      obtain ⟨kl, hkl⟩ : ∃ kl, (l.getD j noA).keep.length = kl := ⟨_, rfl⟩
      rw [hX] at c2 hz
      rw [hkl] at c3
      have HX := Lib.hid hz
      have HKL := Lib.hid hkl
      clear hX hkl hz
      by_cases h1 : 100 < X.size
      · have d2 : (100 : Int) < (X.size : Int) := by omega
        have d2' : decide ((100 : Int) < (X.size : Int)) = true := decide_eq_true d2
        have e0 : Hid (true = b) := Lib.hid (heavyA_yes HB.out (.inr ⟨_, getA_mem hlt, .inl (by rw [← HX.out]; exact h1)⟩))
        clear h1
        go_wp2
        go_ret
        exact ⟨congrArg (fun x => Ending.returned (.bool x)) e0.out, gb⟩
      · have d2 : decide ((100 : Int) < (X.size : Int)) = false := decide_eq_false (by omega)
        by_cases h2 : 50 < kl
        · have d3' : (50 : Int) < (kl : Int) := by omega
          have d3 : decide ((50 : Int) < (kl : Int)) = true := decide_eq_true d3'
          have e0 : Hid (true = b) := Lib.hid (heavyA_yes HB.out (.inr ⟨_, getA_mem hlt, .inr (by rw [HKL.out]; exact h2)⟩))
          clear h1 h2
          go_wp2
          go_ret
          exact ⟨congrArg (fun x => Ending.returned (.bool x)) e0.out, gb⟩
        · have d3 : decide ((50 : Int) < (kl : Int)) = false := decide_eq_false (by omega)
          have HKN : Hid (∀ k, k < j + 1 → (l.getD k noA).s.length ≤ 100 ∧ (l.getD k noA).keep.length ≤ 50) := Lib.hid fun k hk => by
            by_cases e : k = j
            · subst e; rw [← HX.out, HKL.out]; omega
            · exact HK.out k (by omega)
          clear h1 h2
          go_wp2
          go_roundw
          case rel => exact ⟨j + 1, by omega, by go_num, HKN.out, gb⟩
          case measure => simp [intOf]; omega
    · obtain rfl : j = l.length := by omega
      have e0 : Hid (false = b) := Lib.hid (by
        rw [← HB.out]
        refine (heavyA_no.2 ⟨l100, fun a ha => ?_⟩).symm
        obtain ⟨k, hk, rfl⟩ := List.getElem_of_mem ha
        have := HK.out k hk
        rwa [List.getD_eq_getElem?_getD, List.getElem?_eq_getElem hk] at this)
      go_wp2
      go_ret
      exact ⟨congrArg (fun x => Ending.returned (.bool x)) e0.out, gb⟩
end Go.Proofs.Ytdpdgmfmjgjmiaa
