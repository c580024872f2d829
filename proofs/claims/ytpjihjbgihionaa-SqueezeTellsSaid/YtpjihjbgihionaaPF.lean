/- What the lengths of frequencies are: a code, or none. -/
import Derived.Test.YtpjihjbgihionaaPE
import Derived.Test.YtpjihjbgihionaaPD
import Derived.OpenShut
import Derived.Test.YtpjihjbgihionaaJ1
namespace Go.Proofs.Ytpjihjbgihionaa
set_option linter.unusedVariables false

theorem range_filter_len (L : List Nat) (p : Nat → Bool) : (L.filter p).length = ((List.range L.length).filter fun i => p (L.getD i 0)).length := by
  have e : L = (List.range L.length).map fun i => L.getD i 0 := getD_ext L.length rfl (by simp) fun j hj => by rw [map_range_getD _ _ _ hj]
  conv => lhs; rw [e]
  rw [List.filter_map, List.length_map]
  rfl
theorem treesF_range (fr : List Nat) : (treesF fr).length = ((List.range fr.length).filter fun i => decide (0 < fr.getD i 0)).length := by
  unfold treesF
  rw [List.length_map]
theorem lgN_trees {L fr : List Nat} (hl : L.length = fr.length) (h : ∀ i, 0 < L.getD i 0 ↔ 0 < fr.getD i 0) : lgN L 1 = (treesF fr).length := by
  unfold lgN
  rw [range_filter_len, treesF_range, hl]
  congr 1
  refine List.filter_congr fun i _ => ?_
  have := h i
  by_cases h0 : 0 < fr.getD i 0
  · rw [decide_eq_true h0, decide_eq_true (show 1 ≤ L.getD i 0 by have := this.2 h0; omega)]
  · rw [decide_eq_false h0, decide_eq_false (show ¬ 1 ≤ L.getD i 0 from fun h' => h0 (this.1 h'))]
theorem not_right {L : List Nat} (h : kraftW L = 0) : ¬ RightI (nn L) := fun hr => by
  obtain ⟨M, e, h1⟩ := hr.nat
  have hML : M = L := by
    have : ∀ (a b : List Nat), nn a = nn b → a = b := fun a b hab => by
      unfold nn at hab
      exact List.map_inj_right (fun x y hxy => by omega) |>.1 hab
    exact (this _ _ e).symm
  subst hML
  rcases h1.2.2 with hk | hk
  · omega
  · have := ((single_iff h1.2.1).1 hk).2
    omega
theorem lens_facts {fr : List Nat} {lim : Nat} (h1 : 1 ≤ lim) (h15 : lim ≤ 15) (hl : fr.length ≤ 300) (hM : (treesF fr).length ≤ 2 ^ lim) (hf : ∀ i, fr.getD i 0 ≤ 1048576) :
    (lensF lim 20 fr).length = fr.length ∧ (∀ i, (lensF lim 20 fr).getD i 0 ≤ lim) ∧ (∀ i, 0 < (lensF lim 20 fr).getD i 0 ↔ 0 < fr.getD i 0) ∧
    ((treesF fr).length = 0 → kraftW (lensF lim 20 fr) = 0 ∧ ¬ RightI (nn (lensF lim 20 fr))) ∧
    ((treesF fr).length = 1 → kraftW (lensF lim 20 fr) = 16384 ∧ RightN (lensF lim 20 fr)) ∧
    (2 ≤ (treesF fr).length → kraftW (lensF lim 20 fr) = 32768 ∧ RightN (lensF lim 20 fr)) := by
  have a1 := lensF_len lim 20 fr
  have a2 := lensF_ends h1 (k := 20) hM (fun i => hf i)
  obtain ⟨fr', e, b1, b2, b3⟩ := lensF_some lim 20 fr
  generalize lensF lim 20 fr = L at *
  subst e
  have c1 : ∀ i, (depthsF fr').getD i 0 ≤ lim := fun i => by
    rcases Nat.lt_or_ge i (depthsF fr').length with h | h
    · exact a2 _ (getD_mem _ _ h)
    · rw [List.getD_eq_getElem?_getD, List.getElem?_eq_none h]; exact Nat.zero_le _
  have c2 : ∀ i, 0 < (depthsF fr').getD i 0 ↔ 0 < fr.getD i 0 := fun i => by
    rw [← b3 i]
    rcases Nat.lt_or_ge i fr'.length with h | h
    · rw [depthsF_getD h]; exact depF_pos h
    · rw [List.getD_eq_getElem?_getD, List.getElem?_eq_none (by rw [depthsF_len]; exact h), List.getD_eq_getElem?_getD, List.getElem?_eq_none h]
  have c3 : ∀ i, (depthsF fr').getD i 0 ≤ 15 := fun i => Nat.le_trans (c1 i) h15
  have hlg := lgN_trees a1 c2
  refine ⟨a1, c1, c2, fun h => ?_, fun h => ?_, fun h => ?_⟩
  · have := kraft_none (fr := fr') (by omega)
    exact ⟨this, not_right this⟩
  · have hk := kraft_one (fr := fr') (by omega)
    exact ⟨hk, by omega, c3, .inr ((single_iff c3).2 ⟨by omega, hk⟩)⟩
  · have hk := kraft_whole (fr := fr') (by omega) (fun d hd => Nat.le_trans (a2 d hd) h15)
    exact ⟨hk, by omega, c3, .inl hk⟩
theorem trees_le {fr : List Nat} {lim : Nat} (hl : fr.length ≤ 300) (h : 9 ≤ lim) : (treesF fr).length ≤ 2 ^ lim := by
  have h1 := treesF_len fr
  have h2 : 2 ^ 9 ≤ 2 ^ lim := Nat.pow_le_pow_right (by decide) h
  omega
/-- all of them come -/
theorem trees_all {fr : List Nat} (h : ∀ i, i < fr.length → 0 < fr.getD i 0) : (treesF fr).length = fr.length := by
  rw [treesF_range, List.filter_eq_self.2 fun i hi => decide_eq_true (h i (List.mem_range.1 hi)), List.length_range]
theorem mayC_of {fr : List Nat} {lim : Nat} (hl : fr.length ≤ 300) (hM : (treesF fr).length ≤ 2 ^ lim) (hf : ∀ i, fr.getD i 0 ≤ 1048576) : MayC (nn fr) lim := by
  refine ⟨by rw [nn_length]; exact hl, fun x hx => ?_, by rw [usedI_nn]; exact hM⟩
  unfold nn at hx
  obtain ⟨n, hn, rfl⟩ := List.mem_map.1 hx
  obtain ⟨i, hi, rfl⟩ := mem_getD hn
  have := hf i
  exact ⟨by omega, by omega⟩
end Go.Proofs.Ytpjihjbgihionaa
namespace Go.Proofs.Ytpjihjbgihionaa
open Go.RowKit
set_option linter.unusedVariables false

theorem lens_shown : lensF 15 20 [1, 1, 2] = [2, 2, 1] := by decide +kernel
end Go.Proofs.Ytpjihjbgihionaa
namespace Go.Proofs.Ytpjihjbgihionaa
open Go.ChangeShapes Go.WideShapes Go.ChangeAt Go.RowKit
set_option linter.unusedVariables false

/-- numbers of a kind as rows -/
def rowsU (k : IntKind) (l : List Nat) : List (List Value) := l.map fun (n : Nat) => [.int k (n : Int)]
theorem rowsU_len (k : IntKind) (l : List Nat) : (rowsU k l).length = l.length := by simp [rowsU]
theorem rowsU_at {k : IntKind} {l : List Nat} {j : Nat} (h : j < l.length) : (rowsU k l)[j]? = some [.int k ((l.getD j 0 : Nat) : Int)] := by simp [rowsU, h]
theorem SlU.cell {w : World} {p : Option Addr} {n cap : Nat} {k : IntKind} {l : List Nat} (h : Sl w 1 (.slice p n cap) (rowsU k l)) {j : Nat} (hj : j < l.length) : ∃ a : Addr, p = some a ∧ w.cell? (a.add j) = some (.int k ((l.getD j 0 : Nat) : Int)) := by
  obtain ⟨a, e, hc⟩ := h.row (rowsU_at hj)
  exact ⟨a, e, by have := hc 0 _ rfl; rw [Nat.mul_one] at this; exact this⟩
theorem nat_nums {k : IntKind} {b : Nat} (hk : ∀ q : Int, (Lit.int k q).wf = true → 0 ≤ q ∧ q < (b : Int)) : ∀ (l : List Int), (∀ q ∈ l, (Lit.int k q).wf = true) → ∃ m : List Nat, m.length = l.length ∧ (l.map fun q => [Value.int k q]) = rowsU k m ∧ ∀ q ∈ m, q < b
  | [], _ => ⟨[], rfl, rfl, fun q h => by cases h⟩
  | q :: l, h => by
    obtain ⟨m, h1, h2, h3⟩ := nat_nums hk l (fun q hq => h q (by simp [hq]))
    obtain ⟨h4, h5⟩ := hk q (h q (by simp))
    obtain ⟨n, rfl⟩ : ∃ n : Nat, q = (n : Int) := ⟨q.toNat, by omega⟩
    refine ⟨n :: m, by simp [h1], ?_, fun r hr => ?_⟩
    · rw [List.map_cons, h2]; rfl
    · rcases List.mem_cons.1 hr with rfl | hr
      · omega
      · exact h3 r hr
theorem wf_u16 (q : Int) (h : (Lit.int .u16 q).wf = true) : 0 ≤ q ∧ q < ((65536 : Nat) : Int) := by
  have : (IntKind.u16.min ≤ q) ∧ (q ≤ IntKind.u16.max) := by simpa [Lit.wf] using h
  have e1 : IntKind.u16.min = 0 := by decide
  have e2 : IntKind.u16.max = 65535 := by decide
  omega
theorem wf_u8 (q : Int) (h : (Lit.int .u8 q).wf = true) : 0 ≤ q ∧ q < ((256 : Nat) : Int) := by
  have : (IntKind.u8.min ≤ q) ∧ (q ≤ IntKind.u8.max) := by simpa [Lit.wf] using h
  have e1 : IntKind.u8.min = 0 := by decide
  have e2 : IntKind.u8.max = 255 := by decide
  omega
section
variable {H : Type} {enc : TypeId × Value → H} {w : World} {base : Nat} {spare : Nat → Bool} {held : Bool}
theorem open_ilist2 {p0 : Option Addr} {len cap : Nat} {d : DataW H} {p : List MemPlace} (h : DataW.Trod enc Try.prog w base spare held 35 (.slice p0 len cap) d p) :
    ∃ l : List Int, l.length = len ∧ Sl w 1 (.slice p0 len cap) (rowsI l) ∧ (∀ q ∈ l, (Lit.int .i64 q).wf = true) ∧ (Value.slice p0 len cap = .slice none 0 0 ∨ ∃ ad n c, Value.slice p0 len cap = .slice (some ad) n c) := by
  obtain ⟨l, h1, h2, h3⟩ := open_ilist h
  refine ⟨l, h1, h2, h3, ?_⟩
  obtain ⟨m, hm⟩ := h
  have hcells : (Value.slice p0 len cap).cells.toList = [.slice p0 len cap] := rfl
  rw [hcells] at hm
  rcases Deep.open_slice1 Try.underlying35 (by kernel_rfl) hm with ⟨hcs, _⟩ | ⟨a, len', cap', m', n, V, D, Pl, hcs, _⟩
  · cases hcs; exact .inl rfl
  · cases hcs; exact .inr ⟨_, _, _, rfl⟩
theorem open_u8s {p0 : Option Addr} {len cap : Nat} {d : DataW H} {p : List MemPlace} (h : DataW.Trod enc Try.prog w base spare held 40 (.slice p0 len cap) d p) :
    ∃ l : List Nat, l.length = len ∧ Sl w 1 (.slice p0 len cap) (rowsU .u8 l) ∧ ∀ q ∈ l, q < 256 := by
  obtain ⟨l, h1, h2, h3, h4⟩ := open_nums Try.underlying40 Try.underlying5 (by kernel_rfl) h
  obtain ⟨m, q1, q2, q3⟩ := nat_nums wf_u8 l h3
  exact ⟨m, q1.trans h1, by rw [← q2]; exact h2, q3⟩
end
theorem rowsN_snoc (l : List Nat) (x : Nat) : rowsN (l ++ [x]) = rowsN l ++ [[.int .i64 (x : Int)]] := by simp [rowsN]
end Go.Proofs.Ytpjihjbgihionaa
namespace Go.Proofs.Ytpjihjbgihionaa
open Go.RowKit
set_option linter.unusedVariables false

theorem pcW_at {L : List Nat} {j : Nat} (h : j < L.length) : (rowsP (pcW L))[j]? = some [.int .u32 ((codeW L j : Nat) : Int), .int .i64 ((L.getD j 0 : Nat) : Int)] := by
  simp [rowsP, pcW, rowP, h]
theorem pcW_cell {w : World} {ad : Addr} {n cap : Nat} {L : List Nat} (h : Sl w 2 (.slice (some ad) n cap) (rowsP (pcW L))) {j : Nat} (hj : j < L.length) : w.cell? ((ad.add (j * 2)).add 0) = some (.int .u32 ((codeW L j : Nat) : Int)) ∧ w.cell? ((ad.add (j * 2)).add 1) = some (.int .i64 ((L.getD j 0 : Nat) : Int)) := by
  obtain ⟨a, e, hc⟩ := h.row (pcW_at hj)
  cases e
  exact ⟨hc 0 _ rfl, hc 1 _ rfl⟩
theorem pcW_cells {w : World} {b : Nat} {n cap : Nat} {L : List Nat} (h : Sl w 2 (.slice (some ⟨b, 0, none⟩) n cap) (rowsP (pcW L))) {j : Nat} (hj : j < L.length) : w.cell? ⟨b, j * 2, none⟩ = some (.int .u32 ((codeW L j : Nat) : Int)) ∧ w.cell? ⟨b, j * 2 + 1, none⟩ = some (.int .i64 ((L.getD j 0 : Nat) : Int)) := by
  obtain ⟨h1, h2⟩ := pcW_cell h hj
  rw [Addr.add_mid, Addr.add_mid] at h1 h2
  simp only [Nat.zero_add, Nat.add_zero] at h1 h2
  exact ⟨h1, h2⟩
theorem codeW_lt' (L : List Nat) (i : Nat) (h : L.getD i 0 ≤ 15) : codeW L i < 32768 := by
  have h1 := codeW_lt L i
  have h2 : 2 ^ L.getD i 0 ≤ 2 ^ 15 := Nat.pow_le_pow_right (by decide) h
  omega
theorem sl_pcW {w : World} {b : Nat} {t : TypeId} {L : List Nat} (cap : Nat) (h : Blk w b t (rowsP (pcW L)).flatten) : Sl w 2 (.slice (some ⟨b, 0, none⟩) L.length cap) (rowsP (pcW L)) := by
  have := sl_blk (k := 2) (cap := cap) (fun r hr => by simp only [rowsP, List.mem_map] at hr; obtain ⟨q, _, rfl⟩ := hr; rfl) h
  rw [rowsP_len, pcW_len] at this
  exact this
end Go.Proofs.Ytpjihjbgihionaa
