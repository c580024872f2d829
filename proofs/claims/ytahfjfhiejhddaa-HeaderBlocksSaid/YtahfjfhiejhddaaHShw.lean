/- The bound and the case shown, in the laws of versions. -/
import Derived.Test.YtahfjfhiejhddaaHStb
namespace Go.Proofs.Ytahfjfhiejhddaa
open Go.RowKit
set_option linter.unusedVariables false

section
variable {P : Program} {ops : Array Oper} {rest : List Oper} {o : Oper} {a : Act} {w : World} {Q : Exit → Act → World → Prop}
/-- the whole of a block is read, by a guarded operation, too -/
theorem wpList_load_blkV (hgd : Region.wanted o (yielded ops a.tmps) = true) (ty : TypeId) (x : Operand) (ho : o.op = .load ty x)
    (g : Nat) (hx : a.eval x = .pointer (some ⟨g, 0, none⟩)) {t : TypeId} {cs : List Value} {d : TypeDesc} (hg : Blk w g t cs)
    (hu : P.underlying ty = some d) (hd : (match d with | .struct _ | .array _ _ => true | _ => false) = true) (hi : (P.info? ty).map (·.size) = some cs.length)
    (h : wpList P ops Q rest (a.put o.dst (.agg cs.toArray)) w) : wpList P ops Q (o :: rest) a w := by
  unfold wpList
  rw [if_pos hgd]
  exact .inl (wp_load_row ty x ho g hx t cs.toArray (0, 0) d hg hu hd (by simpa using hi) h)
end
def heavyV (a : RawV) : Bool := decide (40 < a.bl.length) || decide (40 < a.ns.length) || decide (40 < a.zs.length) || a.ns.any fun x => decide (100 < x.length)
theorem heavyV_no {a : RawV} : heavyV a = false ↔ a.bl.length ≤ 40 ∧ a.ns.length ≤ 40 ∧ a.zs.length ≤ 40 ∧ ∀ x ∈ a.ns, x.length ≤ 100 := by
  unfold heavyV
  simp only [Bool.or_eq_false_iff, decide_eq_false_iff_not, List.any_eq_false, decide_eq_true_eq, Nat.not_lt, and_assoc]
theorem heavyV_yes {a : RawV} {b : Bool} (hb : heavyV a = b) (h : 40 < a.bl.length ∨ 40 < a.ns.length ∨ 40 < a.zs.length ∨ ∃ x ∈ a.ns, 100 < x.length) : true = b := by
  cases b with
  | true => rfl
  | false =>
    obtain ⟨h1, h2, h3, h4⟩ := heavyV_no.1 hb
    rcases h with h | h | h | ⟨x, hx, h⟩
    · omega
    · omega
    · omega
    · have := h4 x hx
      omega
set_option maxRecDepth 100000 in
set_option maxHeartbeats 2000000 in
theorem l12_heavy (a : RawV) (v : Value) (b : Bool) (w : World) (hb : heavyV a = b) (hV : VV w v a) :
    Calls Try.prog 8 #[v] w fun e w' => e = .returned (.bool b) ∧ Below w.heap.size w w' := by
  obtain ⟨v1, v2, v3, rfl, ⟨pb, cb, rfl⟩, ⟨pn, cn, rfl⟩, ⟨pz, cz, rfl⟩, sb, sn, sz⟩ := hV
  obtain ⟨ia, la, na, za⟩ := a
  dsimp only at *
  obtain ⟨B, hBB⟩ : ∃ B, w.heap.size = B := ⟨_, rfl⟩
  have k0 := Blk.newAt w B hBB 27 (c := (cellsV ia (.slice pb la.length cb) (.slice pn na.length cn) (.slice pz za.length cz)).toArray) _ rfl
  have c1 : (w.alloc (.cells (cellsV ia (.slice pb la.length cb) (.slice pn na.length cn) (.slice pz za.length cz)).toArray 27)).cell? ⟨B, 1, none⟩ = some (.slice pb la.length cb) := by rw [k0.cell]; rfl
  have c2 : (w.alloc (.cells (cellsV ia (.slice pb la.length cb) (.slice pn na.length cn) (.slice pz za.length cz)).toArray 27)).cell? ⟨B, 2, none⟩ = some (.slice pn na.length cn) := by rw [k0.cell]; rfl
  have c3 : (w.alloc (.cells (cellsV ia (.slice pb la.length cb) (.slice pn na.length cn) (.slice pz za.length cz)).toArray 27)).cell? ⟨B, 3, none⟩ = some (.slice pz za.length cz) := by rw [k0.cell]; rfl
  have KB := Lib.hid ((Below.refl w.heap.size w).alloc (Nat.le_refl _) (.cells (cellsV ia (.slice pb la.length cb) (.slice pn na.length cn) (.slice pz za.length cz)).toArray 27))
  have K0 := Lib.hid k0
  have HB := Lib.hid hb
  have SN := Lib.hid sn
  clear k0 sb sn sz hb
  by_cases g1 : 40 < la.length
  · have HN := Lib.hid (heavyV_yes HB.out (.inl g1))
    have d1 : (40 : Int) < (la.length : Int) := by omega
    clear g1
    go_enter Try.func8, Try.ntmps8
    go_wp2
    go_ret
    exact ⟨congrArg (fun x => Ending.returned (.bool x)) HN.out, by first | exact KB.out | (have h := KB.out; rw [hBB] at h; exact h)⟩
  have d1 : ¬ (40 : Int) < (la.length : Int) := by omega
  by_cases g2 : 40 < na.length
  · have HN := Lib.hid (heavyV_yes HB.out (.inr (.inl g2)))
    have d2 : (40 : Int) < (na.length : Int) := by omega
    clear g1 g2
    go_enter Try.func8, Try.ntmps8
    go_wp2
    go_ret
    exact ⟨congrArg (fun x => Ending.returned (.bool x)) HN.out, by first | exact KB.out | (have h := KB.out; rw [hBB] at h; exact h)⟩
  have d2 : ¬ (40 : Int) < (na.length : Int) := by omega
  by_cases g3 : 40 < za.length
  · have HN := Lib.hid (heavyV_yes HB.out (.inr (.inr (.inl g3))))
    have d3 : (40 : Int) < (za.length : Int) := by omega
    clear g1 g2 g3
    go_enter Try.func8, Try.ntmps8
    go_wp2
    go_ret
    exact ⟨congrArg (fun x => Ending.returned (.bool x)) HN.out, by first | exact KB.out | (have h := KB.out; rw [hBB] at h; exact h)⟩
  have d3 : ¬ (40 : Int) < (za.length : Int) := by omega
  have G := Lib.hid (show la.length ≤ 40 ∧ na.length ≤ 40 ∧ za.length ≤ 40 by omega)
  clear g1 g2 g3
  go_enter Try.func8, Try.ntmps8
  go_wp2
  clear c1 c2 c3 d1 d2 d3
  go_loopw [3] (fun i wr => ∃ j : Nat, j ≤ na.length ∧ i = .int .i64 (j : Int) ∧ (∀ k, k < j → (na.getD k []).length ≤ 100) ∧ Blk wr B 27 (cellsV ia (.slice pb la.length cb) (.slice pn na.length cn) (.slice pz za.length cz)) ∧ Below w.heap.size w wr) (fun i _ => na.length - (intOf i).toNat)
  case atStart => exact ⟨0, by omega, rfl, (fun k h => by omega), K0.out, KB.out⟩
  case round =>
    obtain ⟨j, hj, rfl, hf, b0, gb⟩ := hrel
    clear K0 KB
    have HF := Lib.hid hf
    have x2 := b0.cell 2
    simp only [cellsV, List.getElem?_cons_zero, List.getElem?_cons_succ] at x2
    have B0 := Lib.hid b0
    clear hf b0
    by_cases hlt : j < na.length
    · have q40 : na.length ≤ 40 := G.out.2.1
      obtain ⟨an, rfl, y1⟩ := SlS.cell (SN.out.below gb) hlt
      have dj : (j : Int) < (na.length : Int) := by omega
      have hz := tx_size (na.getD j [])
      by_cases hn : 100 < (na.getD j []).length
      · have HN := Lib.hid (heavyV_yes HB.out (.inr (.inr (.inr ⟨_, getN_mem hlt, hn⟩))))
        have d4 : (100 : Int) < ((tx (na.getD j [])).size : Int) := by omega
        clear hz hn
        generalize tx (na.getD j []) = X at *
        go_wp2
        go_ret
        exact ⟨congrArg (fun x => Ending.returned (.bool x)) HN.out, gb⟩
      · have HN := Lib.hid hn
        have d4 : ¬ (100 : Int) < ((tx (na.getD j [])).size : Int) := by omega
        clear hz hn
        generalize tx (na.getD j []) = X at *
        go_wp2
        go_roundw
        case rel => exact ⟨j + 1, by omega, by go_num, (fun k hk => by
          rcases Nat.lt_or_ge k j with h | h
          · exact HF.out k h
          · obtain rfl : k = j := by omega
            exact Nat.le_of_not_lt HN.out), B0.out, gb⟩
        case measure => (simp [intOf]; have := G.out.2.1; omega)
    · obtain rfl : j = na.length := by omega
      have HN : Hid (false = b) := Lib.hid (by
        rw [← HB.out]
        refine (heavyV_no.2 ⟨G.out.1, G.out.2.1, G.out.2.2, fun x hx => ?_⟩).symm
        obtain ⟨k, hk, rfl⟩ := List.getElem_of_mem hx
        have := HF.out k hk
        rwa [List.getD_eq_getElem?_getD, List.getElem?_eq_getElem hk] at this)
      go_wp2
      go_ret
      exact ⟨congrArg (fun x => Ending.returned (.bool x)) HN.out, gb⟩
theorem build_one (w : World) : (Instr.build 27 #[(0, .int .u32 1)]).run Try.prog w = .ok (.agg (cellsV 1 (.slice none 0 0) (.slice none 0 0) (.slice none 0 0)).toArray) w := by kernel_rfl
set_option maxRecDepth 100000 in
set_option maxHeartbeats 1000000 in
theorem l12_shown (w : World) :
    Calls Try.prog 9 #[] w fun e w' => e = .returned (.bool true) ∧ Below w.heap.size w w' := by
  have hE : encT ⟨1, [], [], []⟩ = (⟨#[0, 0, 0, 1, 0, 0]⟩, 0) := by decide
  have H1 := Lib.hid (fun w : World => h_Encode ⟨1, [], [], []⟩ (.agg (cellsV 1 (.slice none 0 0) (.slice none 0 0) (.slice none 0 0)).toArray) ⟨#[0, 0, 0, 1, 0, 0]⟩ 0 w hE ⟨_, _, _, rfl, ⟨_, _, rfl⟩, ⟨_, _, rfl⟩, ⟨_, _, rfl⟩, Sl.none 32, Sl.none 1, Sl.none 1⟩ ⟨by decide, (fun x h => by cases h), (fun x h => by cases h), fun x h => by cases h⟩ (by decide) (by decide) (by decide))
  clear hE
  go_enter Try.func9, Try.ntmps9
  go_wp2_with (first | (refine wpList_build_at rfl 27 _ rfl (.agg (cellsV 1 (.slice none 0 0) (.slice none 0 0) (.slice none 0 0)).toArray) (by simp only [List.map_toArray, List.map_cons, List.map_nil]; exact build_one _) ?_) | (go_at_call 10; (refine (H1.out _).mono ?_); rintro e w1 ⟨rfl, hb1⟩))
  go_ret
  exact ⟨rfl, hb1⟩
end Go.Proofs.Ytahfjfhiejhddaa
