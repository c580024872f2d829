/- Byte slices of the call's own that are written cell by cell; a text's bytes as such a slice. -/
import Derived.Test.YtkpabnpdpjcmdaaOwnM
import Derived.Test.YtkpabnpdpjcmdaaNum
namespace Go.Proofs.Ytkpabnpdpjcmdaa
open Go.RowKit
set_option linter.unusedVariables false

theorem OwnM.free {w : World} {base : Nat} {e : TypeId} {g n cap : Nat} {l : List Int} (h : OwnM w base e (.slice (some ⟨g, 0, none⟩) n cap) l) {j : Nat} (hj : j < l.length) : w.frozen? ⟨g, j, none⟩ = false := by
  rcases h with ⟨hv, h0⟩ | ⟨g', cap', cur, fz, hv, _, hh, hfz, hn, _, hcs, htk⟩
  · cases hv
  · cases hv
    have := hfz j (by omega)
    simp only [World.frozen?, hh]
    obtain ⟨lo, hi⟩ := fz
    simp only [Bool.and_eq_false_iff, decide_eq_false_iff_not]
    simp only at this
    omega
theorem OwnM.set {w : World} {base : Nat} {e : TypeId} {g n cap : Nat} {l : List Int} (h : OwnM w base e (.slice (some ⟨g, 0, none⟩) n cap) l) {j : Nat} (hj : j < l.length) (x : Int) : OwnM (w.setCell ⟨g, j, none⟩ (.int .u8 x)) base e (.slice (some ⟨g, 0, none⟩) n cap) (l.set j x) := by
  rcases h with ⟨hv, h0⟩ | ⟨g', cap', cur, fz, hv, hg, hh, hfz, hn, hm, hcs, htk⟩
  · cases hv
  · cases hv
    refine .inr ⟨g, cap, cur.setIfInBounds j (.int .u8 x), fz, by rw [List.length_set], hg, ?_, hfz, by rw [List.length_set]; exact hn, hm, by simpa using hcs, ?_⟩
    · simp only [World.setCell]
      rw [Array.getElem?_modify]
      simp [hh]
    · rw [List.length_set, Array.toList_setIfInBounds, List.take_set, htk, ints_set]
theorem OwnM.other {w : World} {base : Nat} {e : TypeId} {g n cap : Nat} {l : List Int} (h : OwnM w base e (.slice (some ⟨g, 0, none⟩) n cap) l) {b j : Nat} (hb : b ≠ g) (V : Value) : OwnM (w.setCell ⟨b, j, none⟩ V) base e (.slice (some ⟨g, 0, none⟩) n cap) l := by
  rcases h with ⟨hv, h0⟩ | ⟨g', cap', cur, fz, hv, hg, hh, r⟩
  · cases hv
  · cases hv
    refine .inr ⟨g, cap, cur, fz, rfl, hg, ?_, r⟩
    simp only [World.setCell]
    rw [Array.getElem?_modify]
    rw [if_neg (by omega)]
    exact hh
section
variable {P : Program} {ops : Array Oper} {rest : List Oper} {o : Oper} {a : Act} {w : World} {Q : Exit → Act → World → Prop}
/-- a string's bytes, as a slice of the call's own; where it lies -/
theorem wpList_bytes_at (hgd : o.guard = none) (src dst e : TypeId) (x : Operand) (ho : o.op = .convert src dst x) (base : Nat) (s : ByteArray)
    (hx : a.eval x = .string s) (hs : P.underlying src = some .string) (hd : P.underlying dst = some (.slice e)) (he : P.underlying e = some (.int .u8)) (hbase : base ≤ w.heap.size)
    (hsm : s.size ≤ maxLen)
    (h : ∀ cap w', OwnM w' base e (.slice (some ⟨w.heap.size, 0, none⟩) s.size cap) (is s) → Below w.heap.size w w' → wpList P ops Q rest (a.put o.dst (.slice (some ⟨w.heap.size, 0, none⟩) s.size cap)) w') : wpList P ops Q (o :: rest) a w :=
  wpList_plain hgd fun _ hK => by
    have hcap := grownCap_le_maxLen w s.size 0 e hsm
    unfold Oper.wp execOp
    simp only [ho, hx, Sem.run_bind, Lib.run_convert_string_bytes (P := P) w src dst e s hs hd he, Result.andThen_ok]
    refine hK _ _ (h _ _ ?_ ?_)
    · have hge := grownCap_ge w s.size 0 e
      have hsz : (Lib.bytesCells w e s).size = grownCap w s.size 0 e := by
        simp [Lib.bytesCells]; omega
      refine .inr ⟨w.heap.size, grownCap w s.size 0 e, Lib.bytesCells w e s, _, by rw [is_length], hbase, Lib.bytesWorld_at_new w e s, fun j hj => by rw [hsz]; simp; omega, by rw [is_length]; exact hge, hcap, hsz, ?_⟩
      rw [is_length]
      simp [Lib.bytesCells, ints, is, Function.comp_def]
    · refine ⟨rfl, rfl, rfl, ?_, fun k hk => Lib.bytesWorld_at_old w e s k (by omega)⟩
      rw [Lib.bytesWorld_size]; omega
end

end Go.Proofs.Ytkpabnpdpjcmdaa
