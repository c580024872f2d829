/- What three bytes are made to by the key of zeros: the case that each law of stream asks. -/
import Derived.Test.YtgagafefhmofjaaSApply
import Derived.Test.YtgagafefhmofjaaEql
import Derived.Test.YtgagafefhmofjaaOpen
import Derived.OpenShut
namespace Go.Proofs.Ytgagafefhmofjaa
open Go.RowKit
set_option linter.unusedVariables false

set_option maxRecDepth 100000 in
theorem shown_apply : xrL [97, 98, 99] (padF (zerN 32) (zerN 16)) = [189, 247, 163] := by decide +kernel

theorem build_h0 (w : World) : (Instr.build 23 #[]).run Try.prog w = .ok (.agg (ints .u8 (nn (zerN 32))).toArray) w := by kernel_rfl
theorem build_b0 (w : World) : (Instr.build 28 #[]).run Try.prog w = .ok (.agg (ints .u8 (nn (zerN 16))).toArray) w := by kernel_rfl
def b255 : List Nat := zerN 15 ++ [255]
def b1 : List Nat := zerN 14 ++ [1, 0]
theorem next_255 : nextL b255 1 = b1 := by decide +kernel
theorem b255_bys : Bys b255 := by
  intro j
  have h : ∀ j, j < 16 → b255.getD j 0 < 256 := by decide
  by_cases hj : j < 16
  · exact h j hj
  · rw [List.getD_eq_getElem?_getD, List.getElem?_eq_none (by show 16 ≤ j; omega)]; decide
theorem zerN_bys (n : Nat) : Bys (zerN n) := by
  intro j
  unfold zerN
  rw [List.getD_eq_getElem?_getD, List.getElem?_replicate]
  split <;> decide
theorem bs_shown : bs (nn [189, 247, 163]) = ⟨#[189, 247, 163]⟩ := by rfl
theorem build_255 (w : World) : (Instr.build 28 #[(15, .int .u8 255)]).run Try.prog w = .ok (.agg (ints .u8 (nn b255)).toArray) w := by kernel_rfl
theorem build_1 (w : World) : (Instr.build 28 #[(14, .int .u8 1)]).run Try.prog w = .ok (.agg (ints .u8 (nn b1)).toArray) w := by kernel_rfl
theorem sizeOf_u8 (w : World) : (sizeOf 5).run Try.prog w = .ok 1 w := by kernel_rfl
theorem shown_ne : ((⟨#[189, 247, 163]⟩ : ByteArray) == ⟨#[97, 98, 99]⟩) = false := by decide

set_option maxRecDepth 100000 in
set_option maxHeartbeats 1000000 in
theorem l3_shown (w : World) :
    Calls Try.prog 17 #[] w fun e w' => e = .returned (.bool true) ∧ Below w.heap.size w w' := by
  have hA : ∀ w, Calls Try.prog 20 #[.agg (ints .u8 (nn (zerN 32))).toArray, .agg (ints .u8 (nn (zerN 16))).toArray, .string ⟨#[97, 98, 99]⟩] w fun e w' => e = .returned (.string ⟨#[189, 247, 163]⟩) ∧ Below w.heap.size w w' := fun w => by
    have h := s_Apply (zerN 32) (zerN 16) ⟨#[97, 98, 99]⟩ w (zerN_len _) (zerN_bys _) (zerN_len _) (zerN_bys _) (by decide)
    rw [show sl ⟨#[97, 98, 99]⟩ = [97, 98, 99] by rfl, shown_apply, bs_shown] at h
    exact h
  have hN : ∀ w, Calls Try.prog 18 #[.agg (ints .u8 (nn b255)).toArray, .int .u64 1] w fun e w' => e = .returned (.agg (ints .u8 (nn b1)).toArray) ∧ Below w.heap.size w w' := fun w => by
    have h := s_Next b255 1 w rfl b255_bys (by decide)
    rw [next_255] at h
    exact h
  have eqB := fun w => run_eql_ints (P := Try.prog) w 28 5 16 .u8 Try.underlying28 Try.underlying5 sizeOf_u8 (nn b1) (nn b1) rfl rfl
  rw [show (nn b1 == nn b1) = true by simp] at eqB
  have hA' : ∀ w, Calls Try.prog 20 #[.agg #[.int .u8 0, .int .u8 0, .int .u8 0, .int .u8 0, .int .u8 0, .int .u8 0, .int .u8 0, .int .u8 0, .int .u8 0, .int .u8 0, .int .u8 0, .int .u8 0, .int .u8 0, .int .u8 0, .int .u8 0, .int .u8 0, .int .u8 0, .int .u8 0, .int .u8 0, .int .u8 0, .int .u8 0, .int .u8 0, .int .u8 0, .int .u8 0, .int .u8 0, .int .u8 0, .int .u8 0, .int .u8 0, .int .u8 0, .int .u8 0, .int .u8 0, .int .u8 0], .agg #[.int .u8 0, .int .u8 0, .int .u8 0, .int .u8 0, .int .u8 0, .int .u8 0, .int .u8 0, .int .u8 0, .int .u8 0, .int .u8 0, .int .u8 0, .int .u8 0, .int .u8 0, .int .u8 0, .int .u8 0, .int .u8 0], .string ⟨#[97, 98, 99]⟩] w fun e w' => e = .returned (.string ⟨#[189, 247, 163]⟩) ∧ Below w.heap.size w w' := hA
  have hN' : ∀ w, Calls Try.prog 18 #[.agg #[.int .u8 0, .int .u8 0, .int .u8 0, .int .u8 0, .int .u8 0, .int .u8 0, .int .u8 0, .int .u8 0, .int .u8 0, .int .u8 0, .int .u8 0, .int .u8 0, .int .u8 0, .int .u8 0, .int .u8 0, .int .u8 255], .int .u64 1] w fun e w' => e = .returned (.agg (ints .u8 (nn b1)).toArray) ∧ Below w.heap.size w w' := hN
  have eqB' : ∀ w, (binOp .eql 28 (.agg (ints .u8 (nn b1)).toArray) (.agg #[.int .u8 0, .int .u8 0, .int .u8 0, .int .u8 0, .int .u8 0, .int .u8 0, .int .u8 0, .int .u8 0, .int .u8 0, .int .u8 0, .int .u8 0, .int .u8 0, .int .u8 0, .int .u8 0, .int .u8 1, .int .u8 0])).run Try.prog w = .ok (.bool true) w := eqB
  have HA := Lib.hid hA'
  have HN := Lib.hid hN'
  clear hA hN hA' hN' eqB
  generalize b1 = c1 at *
  have hne := shown_ne
  go_enter Try.func17, Try.ntmps17
  go_wp2_with (first | (go_at_call 20; (with_reducible refine (HA.out _).mono ?_); rintro e w3 ⟨rfl, hb3⟩) | (go_at_call 18; (with_reducible refine (HN.out _).mono ?_); rintro e w4 ⟨rfl, hb4⟩))
  go_ret
  exact ⟨rfl, hb3.trans (hb4.mono hb3.size)⟩

theorem cells_b16 : Try.prog.cellsOf 28 = 16 := by kernel_rfl
theorem cells_h32 : Try.prog.cellsOf 23 = 32 := by kernel_rfl
/-- exclusive or twice -/
theorem xrL_twice (l : List Nat) (f : Nat → Nat) : xrL (xrL l f) f = l := getD_ext l.length ((xrL_len _ _).trans (xrL_len _ _)) rfl fun j hj => by
  rw [xrL_getD _ _ _ (by rw [xrL_len]; exact hj), xrL_getD _ _ _ hj, Nat.xor_assoc, Nat.xor_self, Nat.xor_zero]
theorem xrL_bys {l : List Nat} {f : Nat → Nat} (hl : Bys l) (hf : ∀ j, f j < 256) : Bys (xrL l f) := by
  intro j
  by_cases h : j < l.length
  · rw [xrL_getD _ _ _ h]; exact xor_lt (hl j) (hf j)
  · rw [List.getD_eq_getElem?_getD, List.getElem?_eq_none (by rw [xrL_len]; omega)]; decide
/-- the text of these bytes, and its bytes -/
theorem oct_nn {l : List Nat} (h : Bys l) : Octets (nn l) := by
  intro x hx
  obtain ⟨j, hj, rfl⟩ := List.getElem_of_mem hx
  rw [nn_length] at hj
  have h1 := h j
  rw [List.getD_eq_getElem?_getD, List.getElem?_eq_getElem hj] at h1
  simp only [Option.getD_some] at h1
  simp only [nn, List.getElem_map]
  omega
theorem nn_inj {a b : List Nat} (h : nn a = nn b) : a = b := by
  unfold nn at h
  exact (List.map_inj_right (f := fun (n : Nat) => (n : Int)) (fun x y e => by have e' : (x : Int) = (y : Int) := e; omega)).1 h
theorem sl_bs {l : List Nat} (h : Bys l) : sl (bs (nn l)) = l := nn_inj (by rw [← is_sl, is_bs _ (oct_nn h)])
theorem bs_sl (s : ByteArray) : bs (nn (sl s)) = s := by rw [← is_sl, bs_is]
section
variable {P : Program} {ops : Array Oper} {rest : List Oper} {o : Oper} {a : Act} {w : World} {Q : Exit → Act → World → Prop}
/-- the whole of a block is read, under whatever guard that holds -/
theorem wpList_load_blkG (hgd : Region.wanted o (yielded ops a.tmps) = true) (ty : TypeId) (x : Operand) (ho : o.op = .load ty x)
    (g : Nat) (hx : a.eval x = .pointer (some ⟨g, 0, none⟩)) {t : TypeId} {cs : List Value} {d : TypeDesc} (hg : Blk w g t cs)
    (hu : P.underlying ty = some d) (hd : (match d with | .struct _ | .array _ _ => true | _ => false) = true) (hi : (P.info? ty).map (·.size) = some cs.length)
    (h : wpList P ops Q rest (a.put o.dst (.agg cs.toArray)) w) : wpList P ops Q (o :: rest) a w := by
  unfold wpList
  rw [if_pos hgd]
  exact .inl (wp_load_row ty x ho g hx t cs.toArray (0, 0) d hg hu hd (by simpa using hi) h)
end
theorem nat_u8 (x : Int) (h : (Lit.int .u8 x).wf = true) : ∃ n : Nat, x = (n : Int) ∧ n < 256 := by
  have := bounds_u8 h
  exact ⟨x.toNat, by omega, by omega⟩
theorem nat_u32 (x : Int) (h : (Lit.int .u32 x).wf = true) : ∃ n : Nat, x = (n : Int) ∧ n < 4294967296 := by
  have := bounds_u32 h
  exact ⟨x.toNat, by omega, by omega⟩
theorem nat_u64 (x : Int) (h : (Lit.int .u64 x).wf = true) : ∃ n : Nat, x = (n : Int) ∧ n < 18446744073709551616 := by
  have := bounds_u64 h
  exact ⟨x.toNat, by omega, by omega⟩
/-- two equal blocks are told equal -/
theorem eql_same (l : List Nat) (hl : l.length = 16) (w : World) : (binOp .eql 28 (.agg (ints .u8 (nn l)).toArray) (.agg (ints .u8 (nn l)).toArray)).run Try.prog w = .ok (.bool true) w := by
  have h := run_eql_ints (P := Try.prog) w 28 5 16 .u8 Try.underlying28 Try.underlying5 sizeOf_u8 (nn l) (nn l) (by rw [nn_length, hl]) (by rw [nn_length, hl])
  rw [show (nn l == nn l) = true by simp] at h
  exact h
end Go.Proofs.Ytgagafefhmofjaa
