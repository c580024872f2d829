/- What is told of a version's bytes: that it is well-formed, and how it is written again; plain facts. -/
import Derived.Test.YtahfjfhiejhddaaHRdM
namespace Go.Proofs.Ytahfjfhiejhddaa
open Go.RowKit
set_option linter.unusedVariables false

/-- no error is none -/
def NoZero {α : Type} (p : List Nat → Except Nat (α × List Nat)) : Prop := ∀ s e, p s = .error e → e ≠ 0
section
variable {α β : Type} {p : List Nat → Except Nat (α × List Nat)} {q : List Nat → Except Nat (β × List Nat)}
theorem nz_pair (h : NoZero p) (k : NoZero q) : NoZero (pairP p q) := fun s e he => by
  unfold pairP at he
  cases e1 : p s with
  | error er => rw [e1] at he; cases he; exact h s _ e1
  | ok z =>
    obtain ⟨x, r⟩ := z
    rw [e1] at he
    simp only at he
    cases e2 : q r with
    | error er => rw [e2] at he; cases he; exact k r _ e2
    | ok z2 => rw [e2] at he; cases he
theorem nz_guard (h : NoZero p) (c : α → Bool) (er : Nat) (h0 : er ≠ 0) : NoZero (guardP p c er) := fun s e he => by
  unfold guardP at he
  cases e1 : p s with
  | error er => rw [e1] at he; cases he; exact h s _ e1
  | ok z =>
    obtain ⟨x, r⟩ := z
    rw [e1] at he
    simp only at he
    split at he
    · cases he
    · cases he; exact h0
theorem nz_many (h : NoZero p) : ∀ n, NoZero (manyP p n)
  | 0 => fun s e he => by unfold manyP at he; cases he
  | n + 1 => fun s e he => by
    rw [manyP] at he
    cases e1 : p s with
    | error er => rw [e1] at he; cases he; exact h s _ e1
    | ok z =>
      obtain ⟨x, r⟩ := z
      rw [e1] at he
      simp only at he
      cases e2 : manyP p n r with
      | error er => rw [e2] at he; cases he; exact nz_many h n r _ e2
      | ok z2 => rw [e2] at he; cases he
theorem nz_dep {q : α → List Nat → Except Nat (β × List Nat)} (h : NoZero p) (k : ∀ a, NoZero (q a)) : NoZero (depP p q) := fun s e he => by
  unfold depP at he
  cases e1 : p s with
  | error er => rw [e1] at he; cases he; exact h s _ e1
  | ok z =>
    obtain ⟨x, r⟩ := z
    rw [e1] at he
    exact k x r e he
end
theorem nz_fix (w : Nat) : NoZero (fixP w) := fun s e he => by
  unfold fixP at he
  split at he
  · cases he; decide
  · cases he
theorem nz_get : NoZero getP := fun s e he => by
  rw [get_two] at he
  split at he
  · rename_i h; cases he; exact h
  · cases he
theorem nz_raw (n : Nat) : NoZero (rawP n) := fun s e he => by
  unfold rawP at he
  split at he
  · cases he; decide
  · cases he
theorem nz_ver : NoZero verP := fun s e he => by
  have h := nz_pair (nz_fix 4) (nz_pair (nz_dep (nz_guard nz_get (fun n => decide (n ≤ 16)) 111 (by decide)) (nz_many (nz_raw 32))) (nz_dep (nz_guard nz_get (fun n => decide (n ≤ 12)) 111 (by decide)) (nz_many (nz_pair (nz_dep nz_get nz_raw) (nz_guard nz_get (fun n => decide (n ≤ 300)) 111 (by decide))))))
  unfold verP at he
  cases e1 : partsP s with
  | error er => rw [e1] at he; cases he; exact h s _ e1
  | ok z =>
    obtain ⟨x, r⟩ := z
    rw [e1] at he
    simp only at he
    split at he
    · cases he
    · cases he; decide
theorem raw_ok {v : VerH} (h : VerOk v) : (rawOf v).ok ∧ (rawOf v).bl.length ≤ 40 ∧ (rawOf v).ns.length ≤ 40 ∧ (rawOf v).zs.length ≤ 40 := by
  obtain ⟨h1, h2, h3, h4⟩ := h
  obtain ⟨m1, m2, m3, m4, _⟩ := mayH_iff.1 h4
  have hb := blocks_le h4
  refine ⟨⟨h1, h2, fun x hx => ?_, fun z hz => ?_⟩, ?_, ?_, ?_⟩
  · obtain ⟨f, hf, rfl⟩ := List.mem_map.1 hx
    exact h3 f hf
  · have := m4 z hz
    have e1 : IntKind.i64.min = -9223372036854775808 := rfl
    have e2 : IntKind.i64.max = 9223372036854775807 := rfl
    simp [Lit.wf, e1, e2]
    omega
  · show v.blocks.length ≤ 40
    omega
  · show v.names.length ≤ 40
    omega
  · show v.sizes.length ≤ 40
    omega
theorem noV_all : noV.ok ∧ noV.bl.length ≤ 40 ∧ noV.ns.length ≤ 40 ∧ noV.zs.length ≤ 40 := ⟨noV_ok, by decide, by decide, by decide⟩
theorem tell_ok {s : List Nat} (h : Bys s) : (tellA s).1.ok ∧ (tellA s).1.bl.length ≤ 40 ∧ (tellA s).1.ns.length ≤ 40 ∧ (tellA s).1.zs.length ≤ 40 := by
  rw [tellA_is]
  cases e : verP s with
  | error er => exact noV_all
  | ok z =>
    obtain ⟨v, r⟩ := z
    exact raw_ok (ver_codes.from_ s v r h e).1
theorem dec_ok {s : List Nat} (h : Bys s) : (decT (tellA s)).1.ok ∧ (decT (tellA s)).1.bl.length ≤ 40 ∧ (decT (tellA s)).1.ns.length ≤ 40 ∧ (decT (tellA s)).1.zs.length ≤ 40 := by
  unfold decT
  split
  · exact noV_all
  · split
    · exact noV_all
    · exact tell_ok h
theorem enc_raw {v : VerH} (h : VerOk v) : encT (rawOf v) = (tx (verE v), 0) := by
  unfold encT
  have hm : mayH (rawOf v).bl.length (rawOf v).ns (rawOf v).zs = true := h.2.2.2
  rw [if_pos hm, rawOf_ver]
/-- what is decoded is written so -/
theorem dec_enc {s : ByteArray} (h : (decT (tellA (sl s))).2 = 0) : encT (decT (tellA (sl s))).1 = (s, 0) := by
  unfold decT at h ⊢
  split at h
  · rename_i h1; exact absurd h h1
  · split at h
    · cases h
    · rename_i h1 h2
      rw [if_neg h1, if_neg h2]
      rw [tellA_is] at h1 h2 ⊢
      cases e : verP (sl s) with
      | error er =>
        rw [e] at h1
        exact absurd (nz_ver _ _ e) h1
      | ok z =>
        obtain ⟨v, r⟩ := z
        rw [e] at h2
        have hf := ver_codes.from_ (sl s) v r (sl_bys s) e
        have hr : r = [] := List.eq_nil_of_length_eq_zero (by simpa [told] using h2)
        subst hr
        show encT (rawOf v) = (s, 0)
        rw [enc_raw hf.1, ← List.append_nil (verE v), ← hf.2, tx_sl]
/-- what was written is read -/
theorem tell_back {v : VerH} (h : VerOk v) (r : List Nat) : tellA (verE v ++ r) = (rawOf v, r, 0) := by
  rw [tellA_is, ver_codes.back v r h]
  rfl
theorem tell_cut {v : VerH} (h : VerOk v) {j : Nat} (hj : j < (verE v).length) : tellA ((verE v).take j) = errV 40 := by
  rw [tellA_is, ver_codes.cut v j h hj]
  rfl
theorem raw_ver {a : RawV} (hk : a.ok) (hm : mayH a.bl.length a.ns a.zs = true) : rawOf a.ver = a := by
  obtain ⟨_, h1, h2⟩ := ver_okR hk hm
  unfold rawOf
  rw [h1, h2]
  rfl
theorem ver_small {v : VerH} (h : VerOk v) : (verE v).length ≤ 1000 ∧ 6 ≤ (verE v).length := by
  have hb := blocks_le h.2.2.2
  obtain ⟨m1, m2, m3, m4, _⟩ := mayH_iff.1 h.2.2.2
  have h1 := sumF_le (l := v.files.map fileZ) (n := 23) fun x hx => by
    obtain ⟨f, hf, rfl⟩ := List.mem_map.1 hx
    have := (m3 f.1 (List.mem_map.2 ⟨f, hf, rfl⟩)).2
    unfold fileZ
    split <;> omega
  have h2 : v.files.length ≤ 12 := by unfold VerH.names at m1; rwa [List.length_map] at m1
  rw [List.length_map] at h1
  rw [ver_len h]
  omega
theorem VO.cells {w : World} {base : Nat} {v : Value} {a : RawV} (h : VO w base v a) : ∃ C : List Value, v = .agg C.toArray ∧ C.length = 4 ∧ C.toArray.all (·.oneCell') = true := by
  obtain ⟨vb, vn, vz, rfl, h1, h2, h3⟩ := h
  obtain ⟨p1, c1, rfl⟩ := h1.isSlice
  obtain ⟨p2, c2, rfl⟩ := h2.isSlice
  obtain ⟨p3, c3, rfl⟩ := h3.isSlice
  exact ⟨_, rfl, rfl, cellsV_one _ _ _ _ _ _ _ _ _ _⟩
end Go.Proofs.Ytahfjfhiejhddaa
