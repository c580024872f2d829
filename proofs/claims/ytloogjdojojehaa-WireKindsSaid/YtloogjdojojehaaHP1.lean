/- Walk of the reference's reading of a hash. -/
import Derived.Test.YtloogjdojojehaaHG
import Derived.Test.YtloogjdojojehaaG1
import Derived.Test.YtloogjdojojehaaFD
import Derived.Test.YtloogjdojojehaaV1
import Derived.Test.YtloogjdojojehaaFC
namespace Go.Proofs.Ytloogjdojojehaa
open Go.RowKit
set_option linter.unusedVariables false

theorem alloc_h32 (w : World) : (Instr.alloc 34 true (.tuple #[])).run Try.prog w = .ok (.pointer (some ⟨w.heap.size, 0, none⟩)) (w.alloc (.cells (ints .u8 (nn (zerN 32))).toArray 34)) := by kernel_rfl
theorem build_h32 (w : World) : (Instr.build 34 #[]).run Try.prog w = .ok (.agg (ints .u8 (nn (zerN 32))).toArray) w := by kernel_rfl
/-- the first k bytes, and zeros -/
def wrH (l : List Nat) (k : Nat) : List Nat := l.take k ++ zerN (32 - k)
theorem wrH_len {l : List Nat} (h : 32 ≤ l.length) {k : Nat} (hk : k ≤ 32) : (wrH l k).length = 32 := by unfold wrH; rw [List.length_append, List.length_take, zerN_len]; omega
theorem wrH_set {l : List Nat} (h : 32 ≤ l.length) {k : Nat} (hk : k < 32) : (wrH l k).set k (l.getD k 0) = wrH l (k + 1) := by
  unfold wrH
  have hl : (l.take k).length = k := by rw [List.length_take]; omega
  rw [List.set_append_right _ _ (by omega), hl, Nat.sub_self, take_snoc l k (by omega), List.append_assoc]
  congr 1
  obtain ⟨m, hm⟩ : ∃ m, 32 - k = m + 1 := ⟨31 - k, by omega⟩
  rw [hm, show 32 - (k + 1) = m by omega]
  unfold zerN
  rw [List.replicate_succ]
  rfl
theorem wrH_all (l : List Nat) : wrH l 32 = l.take 32 := by unfold wrH zerN; simp
def hsC (w : World) (B : Nat) (H : List Value) (b : Bool) (W : World) : Prop := Blk W (B + 1) 34 H ∧ Blk W B 34 (if b then H else ints .u8 (nn (zerN 32))) ∧ Below w.heap.size w W
def hsS (H : List Value) (s RT : ByteArray) (i : Nat) (v : Value) (W : World) : Prop :=
  match i with
  | 0 => v = .agg H.toArray
  | 1 => v = .string s
  | 2 | 4 => v = .string RT
  | _ => True
theorem hsS_mono {H : List Value} {s RT : ByteArray} (i : Nat) (v : Value) (W W' : World) (h : hsS H s RT i v W) : hsS H s RT i v W' :=
  match i with
  | 0 | 1 | 2 | 3 | 4 => h
  | _ + 5 => trivial
end Go.Proofs.Ytloogjdojojehaa
namespace Go.Proofs.Ytloogjdojojehaa
open Go.RowKit
set_option linter.unusedVariables false

theorem info_hash : (Try.prog.info? 34).map (fun i => (i.zero, i.size, i.bytes)) = some (some (.agg (ints .u8 (nn (zerN 32))).toArray), 32, 32) := by kernel_rfl
end Go.Proofs.Ytloogjdojojehaa
namespace Go.Proofs.Ytloogjdojojehaa
open Go.RowKit
set_option linter.unusedVariables false

end Go.Proofs.Ytloogjdojojehaa
namespace Go.Proofs.Ytloogjdojojehaa
open Go.RowKit
set_option linter.unusedVariables false

/-- no error is none -/
def NoZero {α : Type} (p : List Nat → Except Nat (α × List Nat)) : Prop := ∀ s e, p s = .error e → e ≠ 0
section
variable {α β : Type} {p : List Nat → Except Nat (α × List Nat)} {q : List Nat → Except Nat (β × List Nat)}
theorem nz_pair (h : NoZero p) (k : NoZero q) : NoZero (pairP p q) := fun s e he => by
  unfold pairP at he
  cases e1 : p s with
  | error er => rw [e1] at he; cases he; exact h s _ e1
  | ok z =>
    obtain ⟨x, r⟩ := z
    rw [e1] at he
    simp only at he
    cases e2 : q r with
    | error er => rw [e2] at he; cases he; exact k r _ e2
    | ok z2 => rw [e2] at he; cases he
theorem nz_guard (h : NoZero p) (c : α → Bool) (er : Nat) (h0 : er ≠ 0) : NoZero (guardP p c er) := fun s e he => by
  unfold guardP at he
  cases e1 : p s with
  | error er => rw [e1] at he; cases he; exact h s _ e1
  | ok z =>
    obtain ⟨x, r⟩ := z
    rw [e1] at he
    simp only at he
    split at he
    · cases he
    · cases he; exact h0
theorem nz_many (h : NoZero p) : ∀ n, NoZero (manyP p n)
  | 0 => fun s e he => by unfold manyP at he; cases he
  | n + 1 => fun s e he => by
    rw [manyP] at he
    cases e1 : p s with
    | error er => rw [e1] at he; cases he; exact h s _ e1
    | ok z =>
      obtain ⟨x, r⟩ := z
      rw [e1] at he
      simp only at he
      cases e2 : manyP p n r with
      | error er => rw [e2] at he; cases he; exact nz_many h n r _ e2
      | ok z2 => rw [e2] at he; cases he
theorem nz_dep {q : α → List Nat → Except Nat (β × List Nat)} (h : NoZero p) (k : ∀ a, NoZero (q a)) : NoZero (depP p q) := fun s e he => by
  unfold depP at he
  cases e1 : p s with
  | error er => rw [e1] at he; cases he; exact h s _ e1
  | ok z =>
    obtain ⟨x, r⟩ := z
    rw [e1] at he
    exact k x r e he
end
theorem nz_fix (w : Nat) : NoZero (fixP w) := fun s e he => by
  unfold fixP at he
  split at he
  · cases he; decide
  · cases he
theorem nz_get : NoZero getP := fun s e he => by
  rw [get_two] at he
  split at he
  · rename_i h; cases he; exact h
  · cases he
theorem nz_raw (n : Nat) : NoZero (rawP n) := fun s e he => by
  unfold rawP at he
  split at he
  · cases he; decide
  · cases he
theorem nz_ver : NoZero verP := fun s e he => by
  have h := nz_pair (nz_fix 4) (nz_pair (nz_dep (nz_guard nz_get (fun n => decide (n ≤ 16)) 111 (by decide)) (nz_many (nz_raw 32))) (nz_dep (nz_guard nz_get (fun n => decide (n ≤ 12)) 111 (by decide)) (nz_many (nz_pair (nz_dep nz_get nz_raw) (nz_guard nz_get (fun n => decide (n ≤ 300)) 111 (by decide))))))
  unfold verP at he
  cases e1 : partsP s with
  | error er => rw [e1] at he; cases he; exact h s _ e1
  | ok z =>
    obtain ⟨x, r⟩ := z
    rw [e1] at he
    simp only at he
    split at he
    · cases he
    · cases he; decide
theorem raw_ok {v : VerH} (h : VerOk v) : (rawOf v).ok ∧ (rawOf v).bl.length ≤ 40 ∧ (rawOf v).ns.length ≤ 40 ∧ (rawOf v).zs.length ≤ 40 := by
  obtain ⟨h1, h2, h3, h4⟩ := h
  obtain ⟨m1, m2, m3, m4, _⟩ := mayH_iff.1 h4
  have hb := blocks_le h4
  refine ⟨⟨h1, h2, fun x hx => ?_, fun z hz => ?_⟩, ?_, ?_, ?_⟩
  · obtain ⟨f, hf, rfl⟩ := List.mem_map.1 hx
    exact h3 f hf
  · have := m4 z hz
    have e1 : IntKind.i64.min = -9223372036854775808 := rfl
    have e2 : IntKind.i64.max = 9223372036854775807 := rfl
    simp [Lit.wf, e1, e2]
    omega
  · show v.blocks.length ≤ 40
    omega
  · show v.names.length ≤ 40
    omega
  · show v.sizes.length ≤ 40
    omega
theorem noV_all : noV.ok ∧ noV.bl.length ≤ 40 ∧ noV.ns.length ≤ 40 ∧ noV.zs.length ≤ 40 := ⟨noV_ok, by decide, by decide, by decide⟩
theorem tell_ok {s : List Nat} (h : Bys s) : (tellA s).1.ok ∧ (tellA s).1.bl.length ≤ 40 ∧ (tellA s).1.ns.length ≤ 40 ∧ (tellA s).1.zs.length ≤ 40 := by
  rw [tellA_is]
  cases e : verP s with
  | error er => exact noV_all
  | ok z =>
    obtain ⟨v, r⟩ := z
    exact raw_ok (ver_codes.from_ s v r h e).1
theorem dec_ok {s : List Nat} (h : Bys s) : (decT (tellA s)).1.ok ∧ (decT (tellA s)).1.bl.length ≤ 40 ∧ (decT (tellA s)).1.ns.length ≤ 40 ∧ (decT (tellA s)).1.zs.length ≤ 40 := by
  unfold decT
  split
  · exact noV_all
  · split
    · exact noV_all
    · exact tell_ok h
theorem enc_raw {v : VerH} (h : VerOk v) : encT (rawOf v) = (tx (verE v), 0) := by
  unfold encT
  have hm : mayH (rawOf v).bl.length (rawOf v).ns (rawOf v).zs = true := h.2.2.2
  rw [if_pos hm, rawOf_ver]
/-- what is decoded is written so -/
theorem dec_enc {s : ByteArray} (h : (decT (tellA (sl s))).2 = 0) : encT (decT (tellA (sl s))).1 = (s, 0) := by
  unfold decT at h ⊢
  split at h
  · rename_i h1; exact absurd h h1
  · split at h
    · cases h
    · rename_i h1 h2
      rw [if_neg h1, if_neg h2]
      rw [tellA_is] at h1 h2 ⊢
      cases e : verP (sl s) with
      | error er =>
        rw [e] at h1
        exact absurd (nz_ver _ _ e) h1
      | ok z =>
        obtain ⟨v, r⟩ := z
        rw [e] at h2
        have hf := ver_codes.from_ (sl s) v r (sl_bys s) e
        have hr : r = [] := List.eq_nil_of_length_eq_zero (by simpa [told] using h2)
        subst hr
        show encT (rawOf v) = (s, 0)
        rw [enc_raw hf.1, ← List.append_nil (verE v), ← hf.2, tx_sl]
/-- what was written is read -/
theorem tell_back {v : VerH} (h : VerOk v) (r : List Nat) : tellA (verE v ++ r) = (rawOf v, r, 0) := by
  rw [tellA_is, ver_codes.back v r h]
  rfl
theorem tell_cut {v : VerH} (h : VerOk v) {j : Nat} (hj : j < (verE v).length) : tellA ((verE v).take j) = errV 40 := by
  rw [tellA_is, ver_codes.cut v j h hj]
  rfl
theorem raw_ver {a : RawV} (hk : a.ok) (hm : mayH a.bl.length a.ns a.zs = true) : rawOf a.ver = a := by
  obtain ⟨_, h1, h2⟩ := ver_okR hk hm
  unfold rawOf
  rw [h1, h2]
  rfl
theorem ver_small {v : VerH} (h : VerOk v) : (verE v).length ≤ 1000 ∧ 6 ≤ (verE v).length := by
  have hb := blocks_le h.2.2.2
  obtain ⟨m1, m2, m3, m4, _⟩ := mayH_iff.1 h.2.2.2
  have h1 := sumF_le (l := v.files.map fileZ) (n := 23) fun x hx => by
    obtain ⟨f, hf, rfl⟩ := List.mem_map.1 hx
    have := (m3 f.1 (List.mem_map.2 ⟨f, hf, rfl⟩)).2
    unfold fileZ
    split <;> omega
  have h2 : v.files.length ≤ 12 := by unfold VerH.names at m1; rwa [List.length_map] at m1
  rw [List.length_map] at h1
  rw [ver_len h]
  omega
theorem VO.cells {w : World} {base : Nat} {v : Value} {a : RawV} (h : VO w base v a) : ∃ C : List Value, v = .agg C.toArray ∧ C.length = 4 ∧ C.toArray.all (·.oneCell') = true := by
  obtain ⟨vb, vn, vz, rfl, h1, h2, h3⟩ := h
  obtain ⟨p1, c1, rfl⟩ := h1.isSlice
  obtain ⟨p2, c2, rfl⟩ := h2.isSlice
  obtain ⟨p3, c3, rfl⟩ := h3.isSlice
  exact ⟨_, rfl, rfl, cellsV_one _ _ _ _ _ _ _ _ _ _⟩
end Go.Proofs.Ytloogjdojojehaa
namespace Go.Proofs.Ytloogjdojojehaa
open Go.RowKit
set_option linter.unusedVariables false

set_option maxRecDepth 100000 in
set_option maxHeartbeats 2000000 in
theorem eq_H (x y : List (List Nat)) (p q : Option Addr) (c d : Nat) (b : Bool) (w : World) (hb : decide (x = y) = b) (hA : HashL x) (hC : HashL y) (hl : x.length ≤ 1000000) (hP : Sl w 32 (.slice p x.length c) (rowsH x)) (hQ : Sl w 32 (.slice q y.length d) (rowsH y)) :
    Calls Try.prog 76 #[.slice p x.length c, .slice q y.length d] w fun e w' => e = .returned (.bool b) ∧ Below w.heap.size w w' := by
  have HP := Lib.hid hP
  have HQ := Lib.hid hQ
  have HB := Lib.hid hb
  have HA := Lib.hid hA
  have HC := Lib.hid hC
  clear hA hC
  clear hP hQ hb
  by_cases q1 : x.length = y.length
  · have L1 := Lib.hid q1
    rw [← q1] at HQ ⊢
    have g0 : ((x.length : Int) != (x.length : Int)) = false := by simp
    clear q1
    go_enter Try.func76, Try.ntmps76
    go_wp2
    go_loopw [13] (fun i wr => ∃ j : Nat, j ≤ x.length ∧ i = .int .i64 (j : Int) ∧ (∀ k, k < j → x.getD k [] = y.getD k []) ∧ Below w.heap.size w wr) (fun i _ => x.length - (intOf i).toNat)
    case atStart => exact ⟨0, by omega, rfl, (fun k h => by omega), Below.refl _ _⟩
    case round =>
      obtain ⟨j, hj, rfl, hf, gb⟩ := hrel
      have HF := Lib.hid hf
      have GB := Lib.hid gb
      clear hf gb
      by_cases hlt : j < x.length
      · have hltb : j < y.length := by rw [← L1.out]; exact hlt
        have dj : (j : Int) < (x.length : Int) := by omega
        obtain ⟨a1, rfl, _⟩ := (HP.out.below GB.out).row (rowsH_at hlt)
        obtain ⟨a2, rfl, _⟩ := (HQ.out.below GB.out).row (rowsH_at hltb)
        have R0 : Hid (∀ wx, (∃ m, wx = wr.drewN m) → ∀ i v, (rowH (x.getD j []))[i]? = some v → wx.cell? ((a1.add (j * 32)).add i) = some v) := Lib.hid fun wx hx => by
          obtain ⟨k, rfl⟩ := hx
          obtain ⟨a', e, hc⟩ := (HP.out.below (below_drewN GB.out k)).row (rowsH_at hlt)
          cases e
          exact hc
        have R1 : Hid (∀ wx, (∃ m, wx = wr.drewN m) → ∀ i v, (rowH (y.getD j []))[i]? = some v → wx.cell? ((a2.add (j * 32)).add i) = some v) := Lib.hid fun wx hx => by
          obtain ⟨k, rfl⟩ := hx
          obtain ⟨a', e, hc⟩ := (HQ.out.below (below_drewN GB.out k)).row (rowsH_at hltb)
          cases e
          exact hc
        have hx1 := (HA.out _ (getN_mem hlt)).1
        have hx2 := (HC.out _ (getN_mem hltb)).1
        obtain ⟨eq, heq⟩ : ∃ eq : Bool, (nn (x.getD j []) == nn (y.getD j [])) = !eq := ⟨!(nn (x.getD j []) == nn (y.getD j [])), by simp⟩
        have hne := neq_hash (x.getD j []) (y.getD j []) hx1 hx2 eq heq
        have hl0 : (rowH (x.getD j [])).length = 32 := rowH_len hx1
        have hl1 : (rowH (y.getD j [])).length = 32 := rowH_len hx2
        have HEQ : Hid (eq = false ↔ x.getD j [] = y.getD j []) := Lib.hid (by
          cases eq with
          | false => exact ⟨fun _ => nn_inj (by simpa using heq), fun _ => rfl⟩
          | true => exact ⟨fun h => (by cases h), fun h => by rw [h] at heq; simp at heq⟩)
        have hne2 : ∀ w, (binOp .neq 34 (.agg (rowH (x.getD j [])).toArray) (.agg (rowH (y.getD j [])).toArray)).run Try.prog w = .ok (.bool eq) w := hne
        generalize rowH (x.getD j []) = X at *
        generalize rowH (y.getD j []) = Y at *
        clear hne heq hx1 hx2
        go_wp2_with fail
        refine region_drew_tail 8 mixed (by kernel_rfl) ?_
        simp only [List.take_succ_cons, List.take_zero, List.drop_succ_cons, List.drop_zero]
        repeat (first | (refine wpQuiet_load_addr rfl 34 _ rfl (a1.add (j * 32)) rfl X R0.out Try.underlying34 rfl (by rw [size_hashV, hl0]) ?_) | (refine wpQuiet_load_addr rfl 34 _ rfl (a2.add (j * 32)) rfl Y R1.out Try.underlying34 rfl (by rw [size_hashV, hl1]) ?_) | go_big_quiet_step (fail) | (refine wpQuiet_step (fun K' hK' => ?_); go_simp; first | (refine hK' _ ?_; clear hK' K') | (refine ⟨_, fun _ _ => rfl, hK' _ ?_⟩; clear hK' K')))
        refine wpQuiet_nil ?_
        rintro w7 ⟨k7, rfl⟩
        have D7 := Lib.hid (below_drewN GB.out k7)
        cases eq with
        | false =>
          have HQ1 := Lib.hid (HEQ.out.1 rfl)
          go_wp2
          go_roundw
          case rel => exact ⟨j + 1, by omega, by go_num, (fun k hk => by
            rcases Nat.lt_or_ge k j with h | h
            · exact HF.out k h
            · obtain rfl : k = j := by omega
              exact HQ1.out), D7.out⟩
          case measure => (simp [intOf]; try omega)
        | true =>
          have HN : Hid (false = b) := Lib.hid (by
            rw [← HB.out]
            symm
            rw [decide_eq_false_iff_not]
            intro h
            have h2 := HEQ.out.2 (by rw [h])
            cases h2)
          go_wp2
          go_ret
          exact ⟨congrArg (fun x => Ending.returned (.bool x)) HN.out, D7.out⟩
      · obtain rfl : j = x.length := by omega
        have HN : Hid (true = b) := Lib.hid (by
          rw [← HB.out]
          symm
          rw [decide_eq_true_eq]
          exact listN_ext L1.out HF.out)
        go_wp2
        go_ret
        exact ⟨congrArg (fun x => Ending.returned (.bool x)) HN.out, GB.out⟩
  · have g0 : ((x.length : Int) != (y.length : Int)) = true := by rw [bne_iff_ne]; omega
    have HN : Hid (false = b) := Lib.hid (by
      rw [← HB.out]
      symm
      rw [decide_eq_false_iff_not]
      intro h
      exact q1 (by rw [h]))
    clear q1
    go_enter Try.func76, Try.ntmps76
    go_wp2
    go_ret
    exact ⟨congrArg (fun x => Ending.returned (.bool x)) HN.out, Below.refl _ _⟩
set_option maxRecDepth 100000 in
set_option maxHeartbeats 2000000 in
theorem eq_S (x y : List (List Nat)) (p q : Option Addr) (c d : Nat) (b : Bool) (w : World) (hb : decide (x = y) = b) (hA : ∀ t ∈ x, Bys t) (hC : ∀ t ∈ y, Bys t) (hl : x.length ≤ 1000000) (hP : Sl w 1 (.slice p x.length c) (rowsS x)) (hQ : Sl w 1 (.slice q y.length d) (rowsS y)) :
    Calls Try.prog 77 #[.slice p x.length c, .slice q y.length d] w fun e w' => e = .returned (.bool b) ∧ Below w.heap.size w w' := by
  have HP := Lib.hid hP
  have HQ := Lib.hid hQ
  have HB := Lib.hid hb
  have HA := Lib.hid hA
  have HC := Lib.hid hC
  clear hA hC
  clear hP hQ hb
  by_cases q1 : x.length = y.length
  · have L1 := Lib.hid q1
    rw [← q1] at HQ ⊢
    have g0 : ((x.length : Int) != (x.length : Int)) = false := by simp
    clear q1
    go_enter Try.func77, Try.ntmps77
    go_wp2
    go_loopw [13] (fun i wr => ∃ j : Nat, j ≤ x.length ∧ i = .int .i64 (j : Int) ∧ (∀ k, k < j → x.getD k [] = y.getD k []) ∧ Below w.heap.size w wr) (fun i _ => x.length - (intOf i).toNat)
    case atStart => exact ⟨0, by omega, rfl, (fun k h => by omega), Below.refl _ _⟩
    case round =>
      obtain ⟨j, hj, rfl, hf, gb⟩ := hrel
      have HF := Lib.hid hf
      have GB := Lib.hid gb
      clear hf gb
      by_cases hlt : j < x.length
      · have hltb : j < y.length := by rw [← L1.out]; exact hlt
        have dj : (j : Int) < (x.length : Int) := by omega
        obtain ⟨a1, rfl, _⟩ := SlS.cell (HP.out.below GB.out) hlt
        obtain ⟨a2, rfl, _⟩ := SlS.cell (HQ.out.below GB.out) hltb
        have R0 : Hid (∀ wx, (∃ m, wx = wr.drewN m) → wx.cell? (a1.add j) = some (.string (tx (x.getD j [])))) := Lib.hid fun wx hx => by
          obtain ⟨k, rfl⟩ := hx
          obtain ⟨a', e, hc⟩ := SlS.cell (HP.out.below (below_drewN GB.out k)) hlt
          cases e
          exact hc
        have R1 : Hid (∀ wx, (∃ m, wx = wr.drewN m) → wx.cell? (a2.add j) = some (.string (tx (y.getD j [])))) := Lib.hid fun wx hx => by
          obtain ⟨k, rfl⟩ := hx
          obtain ⟨a', e, hc⟩ := SlS.cell (HQ.out.below (below_drewN GB.out k)) hltb
          cases e
          exact hc
        have hy1 := HA.out _ (getN_mem hlt)
        have hy2 := HC.out _ (getN_mem hltb)
        obtain ⟨eq, heq⟩ : ∃ eq : Bool, ((tx (x.getD j [])).toList == (tx (y.getD j [])).toList) = eq := ⟨_, rfl⟩
        have HEQ : Hid (eq = true ↔ x.getD j [] = y.getD j []) := Lib.hid (by
          by_cases h : x.getD j [] = y.getD j []
          · rw [h, txt_same] at heq
            exact ⟨fun _ => h, fun _ => heq.symm⟩
          · rw [txt_ne (fun e => h (by rw [← sl_tx hy1, ← sl_tx hy2, e]))] at heq
            exact ⟨fun e => (by rw [← heq] at e; cases e), fun e => absurd e h⟩)
        generalize tx (x.getD j []) = X at *
        generalize tx (y.getD j []) = Y at *
        clear hy1 hy2
        go_wp2_with fail
        refine region_drew_tail 8 mixed (by kernel_rfl) ?_
        simp only [List.take_succ_cons, List.take_zero, List.drop_succ_cons, List.drop_zero]
        repeat (first | (refine wpQuiet_load_one rfl 9 _ rfl (a1.add j) rfl _ R0.out Try.underlying9 rfl ?_) | (refine wpQuiet_load_one rfl 9 _ rfl (a2.add j) rfl _ R1.out Try.underlying9 rfl ?_) | go_big_quiet_step (fail) | (refine wpQuiet_step (fun K' hK' => ?_); go_simp; first | (refine hK' _ ?_; clear hK' K') | (refine ⟨_, fun _ _ => rfl, hK' _ ?_⟩; clear hK' K')))
        refine wpQuiet_nil ?_
        rintro w7 ⟨k7, rfl⟩
        have D7 := Lib.hid (below_drewN GB.out k7)
        cases eq with
        | true =>
          have HQ1 := Lib.hid (HEQ.out.1 rfl)
          go_wp2
          go_roundw
          case rel => exact ⟨j + 1, by omega, by go_num, (fun k hk => by
            rcases Nat.lt_or_ge k j with h | h
            · exact HF.out k h
            · obtain rfl : k = j := by omega
              exact HQ1.out), D7.out⟩
          case measure => (simp [intOf]; try omega)
        | false =>
          have HN : Hid (false = b) := Lib.hid (by
            rw [← HB.out]
            symm
            rw [decide_eq_false_iff_not]
            intro h
            have h2 := HEQ.out.2 (by rw [h])
            cases h2)
          go_wp2
          go_ret
          exact ⟨congrArg (fun x => Ending.returned (.bool x)) HN.out, D7.out⟩
      · obtain rfl : j = x.length := by omega
        have HN : Hid (true = b) := Lib.hid (by
          rw [← HB.out]
          symm
          rw [decide_eq_true_eq]
          exact listN_ext L1.out HF.out)
        go_wp2
        go_ret
        exact ⟨congrArg (fun x => Ending.returned (.bool x)) HN.out, GB.out⟩
  · have g0 : ((x.length : Int) != (y.length : Int)) = true := by rw [bne_iff_ne]; omega
    have HN : Hid (false = b) := Lib.hid (by
      rw [← HB.out]
      symm
      rw [decide_eq_false_iff_not]
      intro h
      exact q1 (by rw [h]))
    clear q1
    go_enter Try.func77, Try.ntmps77
    go_wp2
    go_ret
    exact ⟨congrArg (fun x => Ending.returned (.bool x)) HN.out, Below.refl _ _⟩
set_option maxRecDepth 100000 in
set_option maxHeartbeats 2000000 in
theorem eq_Z (x y : List Int) (p q : Option Addr) (c d : Nat) (b : Bool) (w : World) (hb : decide (x = y) = b) (hl : x.length ≤ 1000000) (hP : Sl w 1 (.slice p x.length c) (rowsZF x)) (hQ : Sl w 1 (.slice q y.length d) (rowsZF y)) :
    Calls Try.prog 78 #[.slice p x.length c, .slice q y.length d] w fun e w' => e = .returned (.bool b) ∧ Below w.heap.size w w' := by
  have HP := Lib.hid hP
  have HQ := Lib.hid hQ
  have HB := Lib.hid hb
  clear hP hQ hb
  by_cases q1 : x.length = y.length
  · have L1 := Lib.hid q1
    rw [← q1] at HQ ⊢
    have g0 : ((x.length : Int) != (x.length : Int)) = false := by simp
    clear q1
    go_enter Try.func78, Try.ntmps78
    go_wp2
    go_loopw [13] (fun i wr => ∃ j : Nat, j ≤ x.length ∧ i = .int .i64 (j : Int) ∧ (∀ k, k < j → x.getD k 0 = y.getD k 0) ∧ Below w.heap.size w wr) (fun i _ => x.length - (intOf i).toNat)
    case atStart => exact ⟨0, by omega, rfl, (fun k h => by omega), Below.refl _ _⟩
    case round =>
      obtain ⟨j, hj, rfl, hf, gb⟩ := hrel
      have HF := Lib.hid hf
      have GB := Lib.hid gb
      clear hf gb
      by_cases hlt : j < x.length
      · have hltb : j < y.length := by rw [← L1.out]; exact hlt
        have dj : (j : Int) < (x.length : Int) := by omega
        obtain ⟨a1, rfl, _⟩ := SlZF.cell (HP.out.below GB.out) hlt
        obtain ⟨a2, rfl, _⟩ := SlZF.cell (l := y) (j := j) (HQ.out.below GB.out) hltb
        have R0 : Hid (∀ wx, (∃ m, wx = wr.drewN m) → wx.cell? (a1.add j) = some (.int .i64 (x.getD j 0))) := Lib.hid fun wx hx => by
          obtain ⟨k, rfl⟩ := hx
          obtain ⟨a', e, hc⟩ := SlZF.cell (HP.out.below (below_drewN GB.out k)) hlt
          cases e
          exact hc
        have R1 : Hid (∀ wx, (∃ m, wx = wr.drewN m) → wx.cell? (a2.add j) = some (.int .i64 (y.getD j 0))) := Lib.hid fun wx hx => by
          obtain ⟨k, rfl⟩ := hx
          obtain ⟨a', e, hc⟩ := SlZF.cell (HQ.out.below (below_drewN GB.out k)) hltb
          cases e
          exact hc
        obtain ⟨eq, heq⟩ : ∃ eq : Bool, ((x.getD j 0) != (y.getD j 0)) = eq := ⟨_, rfl⟩
        have HEQ : Hid (eq = false ↔ x.getD j 0 = y.getD j 0) := Lib.hid (by rw [← heq]; simp)
        obtain ⟨X, hX⟩ : ∃ X, x.getD j 0 = X := ⟨_, rfl⟩
        obtain ⟨Y, hY⟩ : ∃ Y, y.getD j 0 = Y := ⟨_, rfl⟩
        rw [hX] at R0 heq
        rw [hY] at R1 heq
        clear hX hY
        go_wp2_with fail
        refine region_drew_tail 8 mixed (by kernel_rfl) ?_
        simp only [List.take_succ_cons, List.take_zero, List.drop_succ_cons, List.drop_zero]
        repeat (first | (refine wpQuiet_load_one rfl 3 _ rfl (a1.add j) rfl _ R0.out Try.underlying3 rfl ?_) | (refine wpQuiet_load_one rfl 3 _ rfl (a2.add j) rfl _ R1.out Try.underlying3 rfl ?_) | go_big_quiet_step (fail) | (refine wpQuiet_step (fun K' hK' => ?_); go_simp; first | (refine hK' _ ?_; clear hK' K') | (refine ⟨_, fun _ _ => rfl, hK' _ ?_⟩; clear hK' K')))
        refine wpQuiet_nil ?_
        rintro w7 ⟨k7, rfl⟩
        have D7 := Lib.hid (below_drewN GB.out k7)
        cases eq with
        | false =>
          have HQ1 := Lib.hid (HEQ.out.1 rfl)
          go_wp2
          go_roundw
          case rel => exact ⟨j + 1, by omega, by go_num, (fun k hk => by
            rcases Nat.lt_or_ge k j with h | h
            · exact HF.out k h
            · obtain rfl : k = j := by omega
              exact HQ1.out), D7.out⟩
          case measure => (simp [intOf]; try omega)
        | true =>
          have HN : Hid (false = b) := Lib.hid (by
            rw [← HB.out]
            symm
            rw [decide_eq_false_iff_not]
            intro h
            have h2 := HEQ.out.2 (by rw [h])
            cases h2)
          go_wp2
          go_ret
          exact ⟨congrArg (fun x => Ending.returned (.bool x)) HN.out, D7.out⟩
      · obtain rfl : j = x.length := by omega
        have HN : Hid (true = b) := Lib.hid (by
          rw [← HB.out]
          symm
          rw [decide_eq_true_eq]
          exact listZ_ext L1.out HF.out)
        go_wp2
        go_ret
        exact ⟨congrArg (fun x => Ending.returned (.bool x)) HN.out, GB.out⟩
  · have g0 : ((x.length : Int) != (y.length : Int)) = true := by rw [bne_iff_ne]; omega
    have HN : Hid (false = b) := Lib.hid (by
      rw [← HB.out]
      symm
      rw [decide_eq_false_iff_not]
      intro h
      exact q1 (by rw [h]))
    clear q1
    go_enter Try.func78, Try.ntmps78
    go_wp2
    go_ret
    exact ⟨congrArg (fun x => Ending.returned (.bool x)) HN.out, Below.refl _ _⟩
end Go.Proofs.Ytloogjdojojehaa
namespace Go.Proofs.Ytloogjdojojehaa
open Go.RowKit
set_option linter.unusedVariables false

set_option maxRecDepth 100000 in
set_option maxHeartbeats 4000000 in
theorem h_Same (a b : RawV) (va vb : Value) (r : Bool) (w : World) (hr : sameV a b = r) (hA : VV w va a) (hB : VV w vb b) (ha : a.ok) (hb : b.ok) (h1 : a.bl.length ≤ 1000000) (h2 : a.ns.length ≤ 1000000) (h3 : a.zs.length ≤ 1000000) :
    Calls Try.prog 59 #[va, vb] w fun e w' => e = .returned (.bool r) ∧ Below w.heap.size w w' := by
  obtain ⟨v1, v2, v3, rfl, ⟨pb, cb, rfl⟩, ⟨pn, cn, rfl⟩, ⟨pz, cz, rfl⟩, sb, sn, sz⟩ := hA
  obtain ⟨u1, u2, u3, rfl, ⟨qb, db, rfl⟩, ⟨qn, dn, rfl⟩, ⟨qz, dz, rfl⟩, tb, tn, tz⟩ := hB
  obtain ⟨B, hBB⟩ : ∃ B, w.heap.size = B := ⟨_, rfl⟩
  have HBE := Lib.hid hBB
  have k0 := (Blk.newAt w B hBB 30 (c := (cellsV a.id (.slice pb a.bl.length cb) (.slice pn a.ns.length cn) (.slice pz a.zs.length cz)).toArray) _ rfl).alloc (.cells (cellsV b.id (.slice qb b.bl.length db) (.slice qn b.ns.length dn) (.slice qz b.zs.length dz)).toArray 30)
  have k1 := Blk.newAt (w.alloc (.cells (cellsV a.id (.slice pb a.bl.length cb) (.slice pn a.ns.length cn) (.slice pz a.zs.length cz)).toArray 30)) (B + 1) (by simp [hBB]) 30 (c := (cellsV b.id (.slice qb b.bl.length db) (.slice qn b.ns.length dn) (.slice qz b.zs.length dz)).toArray) _ rfl
  have KB := Lib.hid (((Below.refl w.heap.size w).alloc (Nat.le_refl _) (.cells (cellsV a.id (.slice pb a.bl.length cb) (.slice pn a.ns.length cn) (.slice pz a.zs.length cz)).toArray 30)).alloc (by simp) (.cells (cellsV b.id (.slice qb b.bl.length db) (.slice qn b.ns.length dn) (.slice qz b.zs.length dz)).toArray 30))
  obtain ⟨W, hW⟩ : ∃ W, (w.alloc (.cells (cellsV a.id (.slice pb a.bl.length cb) (.slice pn a.ns.length cn) (.slice pz a.zs.length cz)).toArray 30)).alloc (.cells (cellsV b.id (.slice qb b.bl.length db) (.slice qn b.ns.length dn) (.slice qz b.zs.length dz)).toArray 30) = W := ⟨_, rfl⟩
  rw [hW] at k0 k1 KB
  have HW := Lib.hid hW
  have HR := Lib.hid hr
  have K0 := Lib.hid k0
  have K1 := Lib.hid k1
  have QH := Lib.hid (fun (r : Bool) (hr : decide (a.bl = b.bl) = r) => eq_H a.bl b.bl pb qb cb db r W hr ha.2.1 hb.2.1 h1 (sb.below KB.out) (tb.below KB.out))
  have QS := Lib.hid (fun (r : Bool) (hr : decide (a.ns = b.ns) = r) wx (h : Below W.heap.size W wx) => eq_S a.ns b.ns pn qn cn dn r wx hr ha.2.2.1 hb.2.2.1 h2 ((sn.below KB.out).below h) ((tn.below KB.out).below h))
  have QZ := Lib.hid (fun (r : Bool) (hr : decide (a.zs = b.zs) = r) wx (h : Below W.heap.size W wx) => eq_Z a.zs b.zs pz qz cz dz r wx hr h3 ((sz.below KB.out).below h) ((tz.below KB.out).below h))
  have CA : Hid (∀ wx, Below W.heap.size W wx → wx.cell? ⟨B, 2, none⟩ = some (.slice pn a.ns.length cn) ∧ wx.cell? ⟨B, 3, none⟩ = some (.slice pz a.zs.length cz)) := Lib.hid fun wx h => ⟨by rw [(K0.out.below h K0.out.lt).cell]; rfl, by rw [(K0.out.below h K0.out.lt).cell]; rfl⟩
  have CB : Hid (∀ wx, Below W.heap.size W wx → wx.cell? ⟨B + 1, 2, none⟩ = some (.slice qn b.ns.length dn) ∧ wx.cell? ⟨B + 1, 3, none⟩ = some (.slice qz b.zs.length dz)) := Lib.hid fun wx h => ⟨by rw [(K1.out.below h K1.out.lt).cell]; rfl, by rw [(K1.out.below h K1.out.lt).cell]; rfl⟩
  have ca0 : ((w.alloc (.cells (cellsV a.id (.slice pb a.bl.length cb) (.slice pn a.ns.length cn) (.slice pz a.zs.length cz)).toArray 30)).alloc (.cells (cellsV b.id (.slice qb b.bl.length db) (.slice qn b.ns.length dn) (.slice qz b.zs.length dz)).toArray 30)).cell? ⟨B, 0, none⟩ = some (.int .u32 (a.id : Int)) := by rw [hW, k0.cell]; rfl
  have ca1 : ((w.alloc (.cells (cellsV a.id (.slice pb a.bl.length cb) (.slice pn a.ns.length cn) (.slice pz a.zs.length cz)).toArray 30)).alloc (.cells (cellsV b.id (.slice qb b.bl.length db) (.slice qn b.ns.length dn) (.slice qz b.zs.length dz)).toArray 30)).cell? ⟨B, 1, none⟩ = some (.slice pb a.bl.length cb) := by rw [hW, k0.cell]; rfl
  have cb0 : ((w.alloc (.cells (cellsV a.id (.slice pb a.bl.length cb) (.slice pn a.ns.length cn) (.slice pz a.zs.length cz)).toArray 30)).alloc (.cells (cellsV b.id (.slice qb b.bl.length db) (.slice qn b.ns.length dn) (.slice qz b.zs.length dz)).toArray 30)).cell? ⟨B + 1, 0, none⟩ = some (.int .u32 (b.id : Int)) := by rw [hW, k1.cell]; rfl
  have cb1 : ((w.alloc (.cells (cellsV a.id (.slice pb a.bl.length cb) (.slice pn a.ns.length cn) (.slice pz a.zs.length cz)).toArray 30)).alloc (.cells (cellsV b.id (.slice qb b.bl.length db) (.slice qn b.ns.length dn) (.slice qz b.zs.length dz)).toArray 30)).cell? ⟨B + 1, 1, none⟩ = some (.slice qb b.bl.length db) := by rw [hW, k1.cell]; rfl
  clear k0 k1 sb sn sz tb tn tz ha hb hr hW h1 h2 h3
  by_cases q0 : a.id = b.id
  rotate_left
  · have HN := Lib.hid (same_no HR.out (fun h => q0 h.1))
    have e0 : ((a.id : Int) == (b.id : Int)) = false := by rw [beq_eq_false_iff_ne]; omega
    clear q0
    go_enter Try.func59, Try.ntmps59
    go_wp2_with fail
    rw [HW.out]
    go_wp2
    go_ret
    exact ⟨congrArg (fun x => Ending.returned (.bool x)) HN.out, KB.out⟩
  have e0 : ((a.id : Int) == (b.id : Int)) = true := by rw [q0]; simp
  by_cases q1 : a.bl = b.bl
  rotate_left
  · have HN := Lib.hid (same_no HR.out (fun h => q1 h.2.1))
    have QH1 := Lib.hid (QH.out false (decide_eq_false q1))
    clear q1 q0
    go_enter Try.func59, Try.ntmps59
    go_wp2_with fail
    rw [HW.out]
    refine QH1.out.mono ?_
    rintro e w1 ⟨rfl, hb1⟩
    have G1 := Lib.hid (KB.out.trans (hb1.mono KB.out.size))
    clear hb1
    go_wp2
    go_ret
    exact ⟨congrArg (fun x => Ending.returned (.bool x)) HN.out, G1.out⟩
  have QH1 := Lib.hid (QH.out true (decide_eq_true q1))
  by_cases q2 : a.ns = b.ns
  rotate_left
  · have HN := Lib.hid (same_no HR.out (fun h => q2 h.2.2.1))
    have QS1 := Lib.hid (QS.out false (decide_eq_false q2))
    clear q1 q0 q2
    go_enter Try.func59, Try.ntmps59
    go_wp2_with fail
    rw [HW.out]
    refine QH1.out.mono ?_
    rintro e w1 ⟨rfl, hb1⟩
    have ⟨x2, x3⟩ := CA.out w1 hb1
    have ⟨y2, y3⟩ := CB.out w1 hb1
    have HB1 := Lib.hid hb1
    clear hb1
    go_wp2_with fail
    refine (QS1.out w1 HB1.out).mono ?_
    rintro e w2 ⟨rfl, hb2⟩
    have G2 := Lib.hid (KB.out.trans ((HB1.out.trans (hb2.mono HB1.out.size)).mono KB.out.size))
    clear hb2 x2 x3 y2 y3
    go_wp2
    go_ret
    exact ⟨congrArg (fun x => Ending.returned (.bool x)) HN.out, G2.out⟩
  have QS1 := Lib.hid (QS.out true (decide_eq_true q2))
  have HZ : Hid (decide (a.zs = b.zs) = r) := Lib.hid (by rw [← HR.out]; unfold sameV; simp [q0, q1, q2])
  have QZ1 := Lib.hid (QZ.out r HZ.out)
  clear q0 q1 q2
  go_enter Try.func59, Try.ntmps59
  go_wp2_with fail
  rw [HW.out]
  refine QH1.out.mono ?_
  rintro e w1 ⟨rfl, hb1⟩
  have ⟨x2, x3⟩ := CA.out w1 hb1
  have ⟨y2, y3⟩ := CB.out w1 hb1
  have HB1 := Lib.hid hb1
  clear hb1
  go_wp2_with fail
  refine (QS1.out w1 HB1.out).mono ?_
  rintro e w2 ⟨rfl, hb2⟩
  have HB2 := Lib.hid (HB1.out.trans (hb2.mono HB1.out.size))
  clear hb2 x2 x3 y2 y3
  have ⟨x2, x3⟩ := CA.out w2 HB2.out
  have ⟨y2, y3⟩ := CB.out w2 HB2.out
  go_wp2_with fail
  refine (QZ1.out w2 HB2.out).mono ?_
  rintro e w3 ⟨rfl, hb3⟩
  have G3 := Lib.hid (KB.out.trans ((HB2.out.trans (hb3.mono HB2.out.size)).mono KB.out.size))
  clear hb3 x2 x3 y2 y3
  go_wp2
  go_ret
  exact ⟨rfl, G3.out⟩
end Go.Proofs.Ytloogjdojojehaa
namespace Go.Proofs.Ytloogjdojojehaa
open Go.RowKit
set_option linter.unusedVariables false

/-- what a size is told by -/
def okS (z : Int) : Bool := decide (0 ≤ z ∧ z ≤ 300)
set_option maxRecDepth 100000 in
theorem h_maySize (z : Int) (b : Bool) (w : World) (hb : okS z = b) :
    Calls Try.prog 91 #[.int .i64 z] w fun e w' => e = .returned (.bool b) ∧ w' = w := by
  unfold okS at hb
  by_cases h0 : 0 ≤ z
  · have g1 : decide ((0 : Int) ≤ z) = true := by simp; exact h0
    by_cases h1 : z ≤ 300
    · have g2 : decide (z ≤ 300) = true := by simp; exact h1
      obtain rfl : true = b := by rw [← hb]; simp [h0, h1]
      clear hb h0 h1
      go_enter Try.func91, Try.ntmps91
      go_wp2
      go_ret
      exact ⟨rfl, rfl⟩
    · have g2 : decide (z ≤ 300) = false := by simp; omega
      obtain rfl : false = b := by rw [← hb]; simp [h1]
      clear hb h0 h1
      go_enter Try.func91, Try.ntmps91
      go_wp2
      go_ret
      exact ⟨rfl, rfl⟩
  · have g1 : decide ((0 : Int) ≤ z) = false := by simp; omega
    obtain rfl : false = b := by rw [← hb]; simp [h0]
    clear hb h0
    go_enter Try.func91, Try.ntmps91
    go_wp2
    go_ret
    exact ⟨rfl, rfl⟩
set_option maxRecDepth 100000 in
set_option maxHeartbeats 1000000 in
theorem h_maySizes (zs : List Int) (p : Option Addr) (c : Nat) (b : Bool) (w : World) (hb : zs.all okS = b) (hl : zs.length ≤ 1000) (hS : Sl w 1 (.slice p zs.length c) (rowsZF zs)) :
    Calls Try.prog 74 #[.slice p zs.length c] w fun e w' => e = .returned (.bool b) ∧ Below w.heap.size w w' := by
  have HS := Lib.hid hS
  have HB := Lib.hid hb
  clear hS hb
  go_enter Try.func74, Try.ntmps74
  go_wp2
  go_loopw [7] (fun i wr => ∃ j : Nat, j ≤ zs.length ∧ i = .int .i64 (j : Int) ∧ (∀ k, k < j → okS (zs.getD k 0) = true) ∧ Below w.heap.size w wr) (fun i _ => zs.length - (intOf i).toNat)
  case atStart => exact ⟨0, by omega, rfl, (fun k h => by omega), Below.refl _ _⟩
  case round =>
    obtain ⟨j, hj, rfl, hk, gb⟩ := hrel
    have HK := Lib.hid hk
    clear hk
    by_cases hlt : j < zs.length
    · obtain ⟨a, rfl, c1⟩ := SlZF.cell (HS.out.below gb) hlt
      have d1 : (j : Int) < (zs.length : Int) := by omega
      by_cases ho : okS (zs.getD j 0) = true
      · have HC := Lib.hid (h_maySize (zs.getD j 0) true wr ho)
        have HKN : Hid (∀ k, k < j + 1 → okS (zs.getD k 0) = true) := Lib.hid fun k hk => by
          by_cases e : k = j
          · subst e; exact ho
          · exact HK.out k (by omega)
        generalize zs.getD j 0 = z at *
        clear ho
        go_wp2_with fail
        refine HC.out.mono ?_
        rintro e w9 ⟨rfl, rfl⟩
        go_wp2
        go_roundw
        case rel => exact ⟨j + 1, by omega, by go_num, HKN.out, gb⟩
        case measure => simp [intOf]; omega
      · have ho' : okS (zs.getD j 0) = false := by simpa using ho
        have HC := Lib.hid (h_maySize (zs.getD j 0) false wr ho')
        have e0 : Hid (false = b) := Lib.hid (by
          rw [← HB.out]
          symm
          rw [List.all_eq_false]
          exact ⟨_, getZ_mem hlt, by rw [ho']; decide⟩)
        generalize zs.getD j 0 = z at *
        clear ho ho'
        go_wp2_with fail
        refine HC.out.mono ?_
        rintro e w9 ⟨rfl, rfl⟩
        go_wp2
        go_ret
        exact ⟨congrArg (fun x => Ending.returned (.bool x)) e0.out, gb⟩
    · obtain rfl : j = zs.length := by omega
      have e0 : Hid (true = b) := Lib.hid (by
        rw [← HB.out]
        symm
        rw [List.all_eq_true]
        intro z hz
        obtain ⟨k, hk, rfl⟩ := List.getElem_of_mem hz
        have := HK.out k hk
        rwa [List.getD_eq_getElem?_getD, List.getElem?_eq_getElem hk] at this)
      go_wp2
      go_ret
      exact ⟨congrArg (fun x => Ending.returned (.bool x)) e0.out, gb⟩
set_option maxRecDepth 100000 in
set_option maxHeartbeats 1000000 in
theorem h_Blocks (zs : List Int) (p : Option Addr) (c : Nat) (w : World) (hl : zs.length ≤ 1000) (hS : Sl w 1 (.slice p zs.length c) (rowsZF zs)) :
    Calls Try.prog 75 #[.slice p zs.length c] w fun e w' => e = .returned (.int .i64 ((blocksH zs : Nat) : Int)) ∧ Below w.heap.size w w' := by
  have HS := Lib.hid hS
  clear hS
  go_enter Try.func75, Try.ntmps75
  go_wp2
  go_loopw [3, 8] (fun u i wr => ∃ j : Nat, j ≤ zs.length ∧ i = .int .i64 (j : Int) ∧ u = .int .i64 ((sumF ((zs.take j).map cntS) : Nat) : Int) ∧ Below w.heap.size w wr) (fun _ i _ => zs.length - (intOf i).toNat)
  case atStart => exact ⟨0, by omega, rfl, rfl, Below.refl _ _⟩
  case round =>
    obtain ⟨j, hj, rfl, rfl, gb⟩ := hrel
    have hle := sumS_le zs j
    by_cases hlt : j < zs.length
    · obtain ⟨a, rfl, c1⟩ := SlZF.cell (HS.out.below gb) hlt
      have d1 : (j : Int) < (zs.length : Int) := by omega
      have HSN := Lib.hid (sumS_snoc zs hlt)
      generalize zs.getD j 0 = z at *
      generalize sumF ((zs.take j).map cntS) = N at *
      by_cases hz : 0 ≤ z ∧ z ≤ 300
      · obtain ⟨k, rfl⟩ : ∃ k : Nat, z = (k : Int) := ⟨z.toNat, by omega⟩
        have HC := Lib.hid (h_maySize (k : Int) true wr (by unfold okS; exact decide_eq_true hz))
        have E : Hid (sumF ((zs.take (j + 1)).map cntS) = N + k) := Lib.hid (by rw [HSN.out]; unfold cntS; rw [if_pos hz, Int.toNat_natCast])
        clear HSN
        go_wp2_with fail
        refine HC.out.mono ?_
        rintro e w9 ⟨rfl, rfl⟩
        go_wp2
        go_roundw
        case rel => exact ⟨j + 1, by omega, by go_num, by rw [E.out]; go_num, gb⟩
        case measure => simp [intOf]; omega
      · have HC := Lib.hid (h_maySize z false wr (by unfold okS; exact decide_eq_false hz))
        have E : Hid (sumF ((zs.take (j + 1)).map cntS) = N) := Lib.hid (by rw [HSN.out]; unfold cntS; rw [if_neg hz]; rfl)
        clear HSN hz
        go_wp2_with fail
        refine HC.out.mono ?_
        rintro e w9 ⟨rfl, rfl⟩
        go_wp2
        go_roundw
        case rel => exact ⟨j + 1, by omega, by go_num, by rw [E.out], gb⟩
        case measure => simp [intOf]; omega
    · obtain rfl : j = zs.length := by omega
      have hb : blocksH zs = (sumF ((zs.take zs.length).map cntS) + 255) / 256 := by unfold blocksH blkN; rw [List.take_length]
      generalize sumF ((zs.take zs.length).map cntS) = N at *
      have h1 : ((N : Int) + 256 - 1) / 256 = ((blocksH zs : Nat) : Int) := by rw [hb]; omega
      have H1 := Lib.hid h1
      clear hb h1
      go_wp2
      go_ret
      exact ⟨congrArg (fun x => Ending.returned (.int .i64 x)) H1.out, gb⟩
/-- files of these names, without data -/
def noData (ns : List (List Nat)) : List (List Nat × List Nat) := ns.map fun n => (n, [])
theorem noData_len (ns : List (List Nat)) : (noData ns).length = ns.length := by simp [noData]
theorem noData_snoc (ns : List (List Nat)) {j : Nat} (h : j < ns.length) : noData (ns.take (j + 1)) = noData (ns.take j) ++ [(ns.getD j [], [])] := by
  unfold noData
  rw [List.take_succ_eq_append_getElem h, List.map_append, List.getD_eq_getElem?_getD, List.getElem?_eq_getElem h]
  rfl
theorem wrote_noF {n j : Nat} {pre : List (List Nat × List Nat)} (hp : pre.length = j) (hj : j < n) : (wroteF n pre).getD j noF = noF := by
  unfold wroteF
  rw [List.getD_eq_getElem?_getD, List.getElem?_append_right (by omega), List.getElem?_replicate, if_pos (by omega)]
  rfl
theorem okF_noF : rowF noF = [.string ⟨#[]⟩, .string ⟨#[]⟩] := rfl
set_option maxRecDepth 100000 in
set_option maxHeartbeats 1000000 in
theorem h_mayNames (ns : List (List Nat)) (p : Option Addr) (c n : Nat) (w : World) (b : Bool) (hn : checkF (noData ns) = n) (hnb : ((n : Int) == 0) = b) (hl : ns.length ≤ 1000) (hy : ∀ x ∈ ns, Bys x) (hS : Sl w 1 (.slice p ns.length c) (rowsS ns)) :
    Calls Try.prog 73 #[.slice p ns.length c] w fun e w' => e = .returned (.bool b) ∧ Below w.heap.size w w' := by
  have HS := Lib.hid hS
  have HN := Lib.hid hn
  have HY := Lib.hid hy
  have HNB := Lib.hid hnb
  obtain ⟨G, hG⟩ : ∃ G, w.heap.size = G := ⟨_, rfl⟩
  have hmk := make_files ns.length (by omega)
  have k1 := Blk.newAt w G hG 141 (c := (rowsF (List.replicate ns.length noF)).flatten.toArray) _ rfl
  have kb := (Below.refl w.heap.size w).alloc (Nat.le_refl _) (.cells (rowsF (List.replicate ns.length noF)).flatten.toArray 141)
  have e0 : List.replicate ns.length noF = wroteF ns.length [] := by simp [wroteF]
  rw [e0] at k1 kb
  simp only [e0] at hmk
  have K1 := Lib.hid k1
  have KB := Lib.hid kb
  have HG := Lib.hid hG
  clear k1 kb hS hn hy hnb
  generalize hF0 : (rowsF (wroteF ns.length [])).flatten = F0 at *
  have HF0 := Lib.hid hF0
  have hmw := hmk w
  clear hF0 e0 hmk
  rw [hG] at hmw
  go_enter Try.func73, Try.ntmps73
  go_wp2
  clear hmw
  go_loopw [11] (fun i wr => ∃ j : Nat, j ≤ ns.length ∧ i = .int .i64 (j : Int) ∧ Blk wr G 141 (rowsF (wroteF ns.length (noData (ns.take j)))).flatten ∧ Below w.heap.size w wr) (fun i _ => ns.length - (intOf i).toNat)
  case atStart => exact ⟨0, by omega, rfl, by rw [List.take_zero, show noData [] = [] from rfl, HF0.out]; exact K1.out, KB.out⟩
  case round =>
    obtain ⟨j, hj, rfl, bG, gb⟩ := hrel
    clear K1 KB
    by_cases hlt : j < ns.length
    · obtain ⟨a, rfl, c1⟩ := SlS.cell (HS.out.below gb) hlt
      have d1 : (j : Int) < (ns.length : Int) := by omega
      have hpl : (noData (ns.take j)).length = j := by rw [noData_len, List.length_take]; omega
      obtain ⟨X, Z, hcu, hXl, hset⟩ := file_cut (wroteF ns.length (noData (ns.take j))) [] (i := j) (by rw [wroteF_len (by omega)]; exact hlt)
      have hset := hset (ns.getD j [], [])
      rw [List.append_nil] at hcu hset
      have hst : (rowsF (wroteF ns.length (noData (ns.take (j + 1))))).flatten = X ++ (rowF (ns.getD j [], []) ++ Z) := by
        rw [← hset, noData_snoc ns hlt, ← wroteF_set (by omega), hpl]
      rw [hcu, wrote_noF hpl hlt, okF_noF] at bG
      have b2 := bG.set (j * 2) (.string (tx (ns.getD j [])))
      rw [← hXl, List.set_append_right _ _ (Nat.le_refl _), Nat.sub_self] at b2
      have b3 : Hid (Blk (wr.setCell ⟨G, j * 2, none⟩ (.string (tx (ns.getD j [])))) G 141 (rowsF (wroteF ns.length (noData (ns.take (j + 1))))).flatten) := Lib.hid (by rw [hst, ← hXl]; exact b2)
      have gb2 : Hid (Below w.heap.size w (wr.setCell ⟨G, j * 2, none⟩ (.string (tx (ns.getD j []))))) := Lib.hid (gb.setCell (p := ⟨G, j * 2, none⟩) (show w.heap.size ≤ G by rw [HG.out]; exact Nat.le_refl _) _)
      have f1 := bG.free (j * 2)
      have f2 : wr.cell? ⟨G, j * 2, none⟩ = some (.string ⟨#[]⟩) := by
        rw [bG.cell, List.getElem?_append_right (by omega), hXl, Nat.sub_self]
        rfl
      clear b2 hst hset hcu hXl hpl bG gb
      generalize tx (ns.getD j []) = Y at *
      go_wp2
      go_roundw
      case rel => exact ⟨j + 1, by omega, by go_num, b3.out, gb2.out⟩
      case measure => simp [intOf]; omega
    · obtain rfl : j = ns.length := by omega
      rw [List.take_length, wroteF_all (noData_len ns)] at bG
      have sP := sl_blkS (k := 2) (cap := ns.length) (rest := []) rowsF_two (by rw [List.append_nil]; exact bG)
      rw [rowsF_len] at sP
      have HC := Lib.hid (f_Check (noData ns) (some ⟨G, 0, none⟩) ns.length n wr HN.out (fun f hf => by
        unfold noData at hf
        obtain ⟨x, hx, rfl⟩ := List.mem_map.1 hf
        exact HY.out x hx) (by rw [noData_len]; omega) sP)
      rw [noData_len] at HC
      clear sP bG hlt
      have GB := Lib.hid gb
      clear gb
      go_wp2_with fail
      refine HC.out.mono ?_
      rintro e w9 ⟨rfl, hb9⟩
      have GB9 := Lib.hid (GB.out.trans (hb9.mono GB.out.size))
      clear hb9
      go_wp2
      go_ret
      exact ⟨congrArg (fun x => Ending.returned (.bool x)) HNB.out, GB9.out⟩
theorem may_parts (nb : Nat) (ns : List (List Nat)) (zs : List Int) : mayH nb ns zs = (decide (ns.length = zs.length) && decide (checkF (noData ns) = 0) && zs.all okS && decide (nb = blocksH zs)) := by
  rw [Bool.eq_iff_iff, mayH_iff]
  simp only [Bool.and_eq_true, decide_eq_true_eq, List.all_eq_true]
  have hm : (∀ f ∈ noData ns, mayF f = true) ↔ ∀ n ∈ ns, 0 < n.length ∧ n.length ≤ 20 := by
    unfold noData
    constructor
    · intro h n hn
      have := (mayF_iff _).1 (h (n, []) (List.mem_map.2 ⟨n, hn, rfl⟩))
      exact ⟨this.1, this.2.1⟩
    · intro h f hf
      obtain ⟨n, hn, rfl⟩ := List.mem_map.1 hf
      exact (mayF_iff _).2 ⟨(h n hn).1, (h n hn).2, by simp⟩
  have hz : (∀ x ∈ zs, okS x = true) ↔ ∀ z ∈ zs, 0 ≤ z ∧ z ≤ 300 := by
    unfold okS
    simp only [decide_eq_true_eq]
  have hr : risesN ns = risesF (noData ns) := rfl
  rw [checkF_ok, noData_len, hm, hz, hr]
  constructor
  · rintro ⟨a, b, c, d, e, f⟩
    exact ⟨⟨⟨b, a, c, e⟩, d⟩, f⟩
  · rintro ⟨⟨⟨b, a, c, e⟩, d⟩, f⟩
    exact ⟨a, b, c, d, e, f⟩
set_option maxRecDepth 100000 in
set_option maxHeartbeats 4000000 in
theorem h_May (a : RawV) (v : Value) (b : Bool) (w : World) (hb : mayH a.bl.length a.ns a.zs = b) (hV : VV w v a) (hy : ∀ x ∈ a.ns, Bys x) (h1 : a.bl.length ≤ 1000) (h2 : a.ns.length ≤ 1000) (h3 : a.zs.length ≤ 1000) :
    Calls Try.prog 58 #[v] w fun e w' => e = .returned (.bool b) ∧ Below w.heap.size w w' := by
  obtain ⟨vb, vn, vz, rfl, ⟨pb, cb, rfl⟩, ⟨pn, cn, rfl⟩, ⟨pz, cz, rfl⟩, sb, sn, sz⟩ := hV
  obtain ⟨id, bl, ns, zs⟩ := a
  dsimp only at *
  have e0 : (cellsV id (.slice pb bl.length cb) (.slice pn ns.length cn) (.slice pz zs.length cz)).toArray = #[.int .u32 (id : Int), .slice pb bl.length cb, .slice pn ns.length cn, .slice pz zs.length cz] := rfl
  rw [e0]
  obtain ⟨B, hB⟩ : ∃ B, w.heap.size = B := ⟨_, rfl⟩
  have k0 := Blk.newAt w B hB 30 (c := #[.int .u32 (id : Int), .slice pb bl.length cb, .slice pn ns.length cn, .slice pz zs.length cz]) (cellsV id (.slice pb bl.length cb) (.slice pn ns.length cn) (.slice pz zs.length cz)) rfl
  have KB := Lib.hid ((Below.refl w.heap.size w).alloc (Nat.le_refl _) (.cells #[.int .u32 (id : Int), .slice pb bl.length cb, .slice pn ns.length cn, .slice pz zs.length cz] 30))
  obtain ⟨W, hW⟩ : ∃ W, w.alloc (.cells #[.int .u32 (id : Int), .slice pb bl.length cb, .slice pn ns.length cn, .slice pz zs.length cz] 30) = W := ⟨_, rfl⟩
  rw [hW] at k0 KB
  have K0 := Lib.hid k0
  have SN := Lib.hid (sn.below KB.out)
  have SZ := Lib.hid (sz.below KB.out)
  have HW := Lib.hid hW
  have HBE := Lib.hid hB
  have L1 : Hid (∀ wx, NewBut W wx → wx.cell? ⟨B, 1, none⟩ = some (.slice pb bl.length cb)) := Lib.hid fun wx h => by
    have := (K0.out.below h K0.out.lt).cell 1
    simpa [cellsV] using this
  have L2 : Hid (∀ wx, NewBut W wx → wx.cell? ⟨B, 2, none⟩ = some (.slice pn ns.length cn)) := Lib.hid fun wx h => by
    have := (K0.out.below h K0.out.lt).cell 2
    simpa [cellsV] using this
  have L3 : Hid (∀ wx, NewBut W wx → wx.cell? ⟨B, 3, none⟩ = some (.slice pz zs.length cz)) := Lib.hid fun wx h => by
    have := (K0.out.below h K0.out.lt).cell 3
    simpa [cellsV] using this
  have HP := Lib.hid ((may_parts bl.length ns zs).symm.trans hb)
  have QN := Lib.hid (fun (b : Bool) (hb : ((checkF (noData ns) : Int) == 0) = b) wx (h : NewBut W wx) => (h_mayNames ns pn cn _ wx b rfl hb (by omega) hy (SN.out.below h)).mono fun _ _ ⟨x1, x2⟩ => (⟨x1, h.trans (x2.mono h.size)⟩ : _ ∧ NewBut W _))
  have QS := Lib.hid (fun (b : Bool) (hb : zs.all okS = b) wx (h : NewBut W wx) => (h_maySizes zs pz cz b wx hb (by omega) (SZ.out.below h)).mono fun _ _ ⟨x1, x2⟩ => (⟨x1, h.trans (x2.mono h.size)⟩ : _ ∧ NewBut W _))
  have QB := Lib.hid (fun wx (h : NewBut W wx) => (h_Blocks zs pz cz wx (by omega) (SZ.out.below h)).mono fun _ _ ⟨x1, x2⟩ => (⟨x1, h.trans (x2.mono h.size)⟩ : _ ∧ NewBut W _))
  clear hb hy sn sz sb k0 e0 hW h1 h2 h3
  by_cases q1 : ns.length = zs.length
  · rw [← q1]
    by_cases q2 : checkF (noData ns) = 0
    · have QN1 := Lib.hid (QN.out true (by rw [q2]; rfl))
      cases q3 : zs.all okS with
      | true =>
        have QS1 := Lib.hid (QS.out true q3)
        rw [← q1] at QS1 QB L3 K0 HW
        by_cases q4 : bl.length = blocksH zs
        · have e1 : Hid (true = b) := Lib.hid (by rw [← HP.out, q2, q3, ← q4, q1]; simp)
          rw [← q4] at QB
          have m1 : ((bl.length : Int) == (bl.length : Int)) = true := by simp
          have m2 : ((ns.length : Int) == (ns.length : Int)) = true := by simp
          clear q1 q2 q3 q4 QN QS
          go_enter Try.func58, Try.ntmps58
          go_wp2_with fail
          rw [HW.out]
          clear hB
          refine region_quiet_tail (C := NewBut W) 26 mixed (by kernel_rfl) (show Below _ _ _ from (Below.refl _ _).drew) ?_
          simp only [List.take_succ_cons, List.take_zero, List.drop_succ_cons, List.drop_zero]
          repeat (first | go_big_quiet_step (fail) | (refine wpQuiet_load_one rfl 26 _ rfl ⟨B, 1, none⟩ rfl _ L1.out Try.underlying26 rfl ?_) | (refine wpQuiet_load_one rfl 27 _ rfl ⟨B, 2, none⟩ rfl _ L2.out Try.underlying27 rfl ?_) | (refine wpQuiet_load_one rfl 28 _ rfl ⟨B, 3, none⟩ rfl _ L3.out Try.underlying28 rfl ?_) | (refine wpQuiet_step (fun K' hK' => ?_); go_simp; first | (refine hK' _ ?_; clear hK' K') | (refine ⟨_, fun _ _ => rfl, hK' _ ?_⟩; clear hK' K') | ((with_reducible refine ⟨_, fun wx hx => QN1.out wx hx, hK' _ ?_⟩); clear hK' K') | ((with_reducible refine ⟨_, fun wx hx => QS1.out wx hx, hK' _ ?_⟩); clear hK' K') | ((with_reducible refine ⟨_, fun wx hx => QB.out wx hx, hK' _ ?_⟩); clear hK' K')))
          refine wpQuiet_nil ?_
          intro w5 hb5
          have G5 := Lib.hid (KB.out.trans (Below.mono hb5 KB.out.size))
          clear hb5
          go_wp2
          go_ret
          exact ⟨congrArg (fun x => Ending.returned (.bool x)) e1.out, G5.out⟩
        · have e1 : Hid (false = b) := Lib.hid (by rw [← HP.out]; simp [q4])
          obtain ⟨M, hM⟩ : ∃ M, blocksH zs = M := ⟨_, rfl⟩
          rw [hM] at QB q4
          have m1 : ((bl.length : Int) == (M : Int)) = false := by rw [beq_eq_false_iff_ne]; omega
          have m2 : ((ns.length : Int) == (ns.length : Int)) = true := by simp
          clear q1 q2 q3 q4 hM QN QS
          go_enter Try.func58, Try.ntmps58
          go_wp2_with fail
          rw [HW.out]
          clear hB
          refine region_quiet_tail (C := NewBut W) 26 mixed (by kernel_rfl) (show Below _ _ _ from (Below.refl _ _).drew) ?_
          simp only [List.take_succ_cons, List.take_zero, List.drop_succ_cons, List.drop_zero]
          repeat (first | go_big_quiet_step (fail) | (refine wpQuiet_load_one rfl 26 _ rfl ⟨B, 1, none⟩ rfl _ L1.out Try.underlying26 rfl ?_) | (refine wpQuiet_load_one rfl 27 _ rfl ⟨B, 2, none⟩ rfl _ L2.out Try.underlying27 rfl ?_) | (refine wpQuiet_load_one rfl 28 _ rfl ⟨B, 3, none⟩ rfl _ L3.out Try.underlying28 rfl ?_) | (refine wpQuiet_step (fun K' hK' => ?_); go_simp; first | (refine hK' _ ?_; clear hK' K') | (refine ⟨_, fun _ _ => rfl, hK' _ ?_⟩; clear hK' K') | ((with_reducible refine ⟨_, fun wx hx => QN1.out wx hx, hK' _ ?_⟩); clear hK' K') | ((with_reducible refine ⟨_, fun wx hx => QS1.out wx hx, hK' _ ?_⟩); clear hK' K') | ((with_reducible refine ⟨_, fun wx hx => QB.out wx hx, hK' _ ?_⟩); clear hK' K')))
          refine wpQuiet_nil ?_
          intro w5 hb5
          have G5 := Lib.hid (KB.out.trans (Below.mono hb5 KB.out.size))
          clear hb5
          go_wp2
          go_ret
          exact ⟨congrArg (fun x => Ending.returned (.bool x)) e1.out, G5.out⟩
      | false =>
        have QS1 := Lib.hid (QS.out false q3)
        have e1 : Hid (false = b) := Lib.hid (by rw [← HP.out, q3]; simp)
        rw [← q1] at QS1 L3 K0 HW
        have m2 : ((ns.length : Int) == (ns.length : Int)) = true := by simp
        clear q1 q2 q3 QN QS QB
        go_enter Try.func58, Try.ntmps58
        go_wp2_with fail
        rw [HW.out]
        clear hB
        refine region_quiet_tail (C := NewBut W) 26 mixed (by kernel_rfl) (show Below _ _ _ from (Below.refl _ _).drew) ?_
        simp only [List.take_succ_cons, List.take_zero, List.drop_succ_cons, List.drop_zero]
        repeat (first | go_big_quiet_step (fail) | (refine wpQuiet_load_one rfl 26 _ rfl ⟨B, 1, none⟩ rfl _ L1.out Try.underlying26 rfl ?_) | (refine wpQuiet_load_one rfl 27 _ rfl ⟨B, 2, none⟩ rfl _ L2.out Try.underlying27 rfl ?_) | (refine wpQuiet_load_one rfl 28 _ rfl ⟨B, 3, none⟩ rfl _ L3.out Try.underlying28 rfl ?_) | (refine wpQuiet_step (fun K' hK' => ?_); go_simp; first | (refine hK' _ ?_; clear hK' K') | (refine ⟨_, fun _ _ => rfl, hK' _ ?_⟩; clear hK' K') | ((with_reducible refine ⟨_, fun wx hx => QN1.out wx hx, hK' _ ?_⟩); clear hK' K') | ((with_reducible refine ⟨_, fun wx hx => QS1.out wx hx, hK' _ ?_⟩); clear hK' K')))
        refine wpQuiet_nil ?_
        intro w5 hb5
        have G5 := Lib.hid (KB.out.trans (Below.mono hb5 KB.out.size))
        clear hb5
        go_wp2
        go_ret
        exact ⟨congrArg (fun x => Ending.returned (.bool x)) e1.out, G5.out⟩
    · have QN1 := Lib.hid (QN.out false (by rw [beq_eq_false_iff_ne]; omega))
      have e1 : Hid (false = b) := Lib.hid (by rw [← HP.out]; simp [q2])
      rw [← q1] at L3 K0 HW
      have m2 : ((ns.length : Int) == (ns.length : Int)) = true := by simp
      clear q1 q2 QN QS QB
      go_enter Try.func58, Try.ntmps58
      go_wp2_with fail
      rw [HW.out]
      clear hB
      refine region_quiet_tail (C := NewBut W) 26 mixed (by kernel_rfl) (show Below _ _ _ from (Below.refl _ _).drew) ?_
      simp only [List.take_succ_cons, List.take_zero, List.drop_succ_cons, List.drop_zero]
      repeat (first | go_big_quiet_step (fail) | (refine wpQuiet_load_one rfl 26 _ rfl ⟨B, 1, none⟩ rfl _ L1.out Try.underlying26 rfl ?_) | (refine wpQuiet_load_one rfl 27 _ rfl ⟨B, 2, none⟩ rfl _ L2.out Try.underlying27 rfl ?_) | (refine wpQuiet_load_one rfl 28 _ rfl ⟨B, 3, none⟩ rfl _ L3.out Try.underlying28 rfl ?_) | (refine wpQuiet_step (fun K' hK' => ?_); go_simp; first | (refine hK' _ ?_; clear hK' K') | (refine ⟨_, fun _ _ => rfl, hK' _ ?_⟩; clear hK' K') | ((with_reducible refine ⟨_, fun wx hx => QN1.out wx hx, hK' _ ?_⟩); clear hK' K')))
      refine wpQuiet_nil ?_
      intro w5 hb5
      have G5 := Lib.hid (KB.out.trans (Below.mono hb5 KB.out.size))
      clear hb5
      go_wp2
      go_ret
      exact ⟨congrArg (fun x => Ending.returned (.bool x)) e1.out, G5.out⟩
  · have e1 : Hid (false = b) := Lib.hid (by rw [← HP.out]; simp [q1])
    have m2 : ((ns.length : Int) == (zs.length : Int)) = false := by rw [beq_eq_false_iff_ne]; omega
    clear q1 QN QS QB
    go_enter Try.func58, Try.ntmps58
    go_wp2_with fail
    rw [HW.out]
    clear hB
    refine region_quiet_tail (C := NewBut W) 26 mixed (by kernel_rfl) (show Below _ _ _ from (Below.refl _ _).drew) ?_
    simp only [List.take_succ_cons, List.take_zero, List.drop_succ_cons, List.drop_zero]
    repeat (first | go_big_quiet_step (fail) | (refine wpQuiet_load_one rfl 26 _ rfl ⟨B, 1, none⟩ rfl _ L1.out Try.underlying26 rfl ?_) | (refine wpQuiet_load_one rfl 27 _ rfl ⟨B, 2, none⟩ rfl _ L2.out Try.underlying27 rfl ?_) | (refine wpQuiet_load_one rfl 28 _ rfl ⟨B, 3, none⟩ rfl _ L3.out Try.underlying28 rfl ?_) | (refine wpQuiet_step (fun K' hK' => ?_); go_simp; first | (refine hK' _ ?_; clear hK' K') | (refine ⟨_, fun _ _ => rfl, hK' _ ?_⟩; clear hK' K')))
    refine wpQuiet_nil ?_
    intro w5 hb5
    have G5 := Lib.hid (KB.out.trans (Below.mono hb5 KB.out.size))
    clear hb5
    go_wp2
    go_ret
    exact ⟨congrArg (fun x => Ending.returned (.bool x)) e1.out, G5.out⟩
end Go.Proofs.Ytloogjdojojehaa
namespace Go.Proofs.Ytloogjdojojehaa
open Go.RowKit
set_option linter.unusedVariables false

set_option maxRecDepth 100000 in
set_option maxHeartbeats 1000000 in
/-- bytes of another block are written behind what is there -/
theorem b_Write (w : World) (base b : Nat) (l x : List Nat) (T cap : Nat) (t : TypeId) (h : Bld w base b l) (hT : Blk w T t (ints .u8 (nn x))) (ht : t ≠ 62) (hx : 0 < x.length) (hl : l.length + x.length ≤ 1000000000) (hbase : base ≤ w.heap.size) :
    Calls Try.prog 48 #[.pointer (some ⟨b, 0, none⟩), .slice (some ⟨T, 0, none⟩) x.length cap] w fun e w' => e = .returned (.tuple #[.int .i64 (x.length : Int), .nilIface]) ∧ Bld w' base b (l ++ x) ∧ Below base w w' := by
  obtain ⟨i0, hi0, hz0, hz1, hz2⟩ := info_parts info_u8
  obtain ⟨hB, p, v, hp, hb, ho, hnil⟩ := h
  have hTb : T ≠ b := by
    rintro rfl
    unfold Blk at hT hb
    rw [hT] at hb
    simp at hb
    exact ht hb.2
  have HC := Lib.hid (b_check w b p v hp hb)
  have HO := Lib.hid ho
  have HBK := Lib.hid hb
  have HT := Lib.hid hT
  have HTB := Lib.hid hTb
  have hll : (nn l).length = l.length := nn_length l
  have HL := Lib.hid hll
  clear hb ho hp hnil hll hT hTb
  go_enter Try.func48, Try.ntmps48
  go_wp2_with fail
  (with_reducible refine HC.out.mono ?_)
  rintro e w1 ⟨rfl, hw1, hb1⟩
  have hk : OwnB w1 base 5 v (nn l) ∧ Below base w w1 ∧ w1.rangeAt T 0 (ints .u8 (nn x)) := by
    rcases hw1 with rfl | rfl
    · exact ⟨HO.out, Below.refl _ _, fun j u hj => by rw [Nat.zero_add, HT.out.cell]; exact hj⟩
    · exact ⟨HO.out.setOther HBK.out (by decide) 0 _, (Below.refl _ _).setCell (p := ⟨b, 0, none⟩) hB _, fun j u hj => by
        rw [Nat.zero_add, (HT.out.other (a := ⟨b, 0, none⟩) (fun e => HTB.out e.symm) _).cell]; exact hj⟩
  have hown : w1.ownsRow base 5 1 v l.length (ints .u8 (nn l)) := by
    have := hk.1
    unfold OwnB at this
    rw [HL.out] at this
    exact this
  have c1 := hb1.cell 1
  have f1 := hb1.free 1
  simp only [List.getElem?_cons_zero, List.getElem?_cons_succ] at c1
  have HOWN := Lib.hid hown
  have HB1 := Lib.hid hb1
  have HK := Lib.hid hk.2.1
  have HRG := Lib.hid hk.2.2
  have hne : ∀ i, v.ownBlock = some i → i ≠ b := fun i hi e => by
    subst e
    rcases hk.1.2 with ⟨hv, _⟩ | ⟨g, cap, cur, hv, hg, hh, r⟩
    · rw [hv] at hi; cases hi
    · rw [hv] at hi
      cases hi
      unfold Blk at hb1
      rw [hb1] at hh
      simp at hh
  have HLT := Lib.hid (hk.1.lt)
  have HNE := Lib.hid hne
  have H63 : Hid (l.length + x.length ≤ maxLen) := Lib.hid (by unfold maxLen; omega)
  have HBY : Hid ((l.length + x.length) * 1 ≤ 140737488355328) := Lib.hid (by omega)
  have HBS : Hid (base ≤ w1.heap.size) := Lib.hid (by have := HK.out.size; omega)
  have HXL : Hid ((ints .u8 (nn x)).length = x.length * 1) := Lib.hid (by rw [ints_length, nn_length]; omega)
  have HRA : Hid (∀ j u, (ints .u8 (nn x))[j]? = some u → w1.cell? ((⟨T, 0, none⟩ : Addr).add j) = some u) := Lib.hid fun j u hj => by rw [Addr.add_mid]; exact HRG.out j u hj
  have HOC : Hid (∀ u ∈ ints .u8 (nn x), u.oneCell' = true) := Lib.hid fun u hu => by
    simp only [ints, List.mem_map] at hu
    obtain ⟨n, _, rfl⟩ := hu
    rfl
  clear hown hb1 hk hne hw1 HC HO HBK
  go_wp2_with (refine wpList_append_own _ rfl _ _ 60 rfl base 5 i0 (.int .u8 0) 1 1 Try.underlying60 hi0 hz0 hz1 hz2 rfl (by decide) v l.length (ints .u8 (nn l)) rfl HOWN.out ⟨T, 0, none⟩ x.length cap (ints .u8 (nn x)) rfl HXL.out HRA.out HOC.out H63.out HBY.out HBS.out ?_; intro v2 w2 ho2 hg2 hn2; have hb2 := HB1.out.grownP hg2 (fun e => HNE.out b e rfl); have c2 := hb2.cell 1; have f2 := hb2.free 1; simp only [List.getElem?_cons_zero, List.getElem?_cons_succ] at c2; have HO2 := Lib.hid ho2; have HB2 := Lib.hid hb2; have HK2 := Lib.hid (HK.out.grown hg2 HBS.out (fun k e => (HLT.out k e).1)); obtain ⟨p2, c2', rfl⟩ := own_slice ho2; clear ho2 hg2 hb2 hn2)
  go_ret2
  have q1 := HB2.out.set 1 (.slice p2 (l.length + x.length) c2')
  have q2 : OwnB w2 base 5 (.slice p2 (l.length + x.length) c2') (nn (l ++ x)) := by
    unfold OwnB
    rw [nn_length, List.length_append, nn_app, ints_app]
    exact HO2.out
  refine ⟨rfl, ⟨hB, _, _, .inr rfl, q1, q2.setOther HB2.out (by decide) 1 _, fun e => ?_⟩, HK2.out.setCell (p := ⟨b, 1, none⟩) hB _⟩
  have e1 := List.append_eq_nil_iff.1 e
  rw [e1.2] at hx
  simp at hx
set_option maxRecDepth 100000 in
/-- a number is written -/
theorem e_put (n : Nat) (w : World) (base b : Nat) (l : List Nat) (h : Bld w base b l) (hn : n ≤ 1000000) (hl : l.length ≤ 1000000) (hbase : base ≤ w.heap.size) :
    Calls Try.prog 80 #[.int .i64 (n : Int), .pointer (some ⟨b, 0, none⟩)] w fun e w' => e = .returned (.tuple #[]) ∧ Bld w' base b (l ++ putL n) ∧ Below base w w' := by
  have QP := Lib.hid (v_Put n w (by omega))
  have u1 : IntKind.u64.wrap (n : Int) = (n : Int) := wraps_u64 _ (by omega) (by omega)
  have hz := tx_size (putL n)
  have hz2 := put_len_le n
  have hs := sl_tx (put_bys (n := n) (by omega))
  have HS := Lib.hid hs
  have HZ : Hid (l.length + (tx (putL n)).size ≤ 1000000000) := Lib.hid (by rw [hz]; omega)
  have HH := Lib.hid h
  have HB := Lib.hid hbase
  generalize tx (putL n) = Y at *
  clear hz hz2 hs h hbase hl
  have i1 : (n : Int) ≤ 1000000 := by omega
  go_enter Try.func80, Try.ntmps80
  go_wp2_with fail
  (with_reducible refine QP.out.mono ?_)
  rintro e w1 ⟨rfl, hb1⟩
  have BL := Lib.hid (HH.out.keep hb1)
  have G1 := Lib.hid (hb1.mono HB.out)
  have hbs : base ≤ w1.heap.size := by have := hb1.size; have := HB.out; omega
  clear hb1
  go_wp2_with fail
  (with_reducible refine (b_WriteString w1 base b l Y BL.out HZ.out hbs).mono ?_)
  rintro e w2 ⟨rfl, bl2, hb2⟩
  have BL2 := Lib.hid bl2
  have G2 := Lib.hid (G1.out.trans hb2)
  clear bl2 hb2
  go_wp2
  go_end0
  exact ⟨rfl, by rw [← HS.out]; exact BL2.out, G2.out⟩
set_option maxRecDepth 100000 in
set_option maxHeartbeats 4000000 in
theorem h_Encode (a : RawV) (v : Value) (s : ByteArray) (er : Nat) (w : World) (hE : encT a = (s, er)) (hV : VV w v a) (hk : a.ok) (h1 : a.bl.length ≤ 1000) (h2 : a.ns.length ≤ 1000) (h3 : a.zs.length ≤ 1000) :
    Calls Try.prog 61 #[v] w fun e w' => e = .returned (.tuple #[.string s, .int .i64 (er : Int)]) ∧ Below w.heap.size w w' := by
  have HM := Lib.hid (fun (b : Bool) (wx : World) (hb : mayH a.bl.length a.ns a.zs = b) (h : Below w.heap.size w wx) => h_May a v b wx hb (hV.below h) hk.2.2.1 h1 h2 h3)
  obtain ⟨vb, vn, vz, rfl, ⟨pb, cb, rfl⟩, ⟨pn, cn, rfl⟩, ⟨pz, cz, rfl⟩, sb, sn, sz⟩ := hV
  have k0 := Blk.new' w 30 (c := (cellsV a.id (.slice pb a.bl.length cb) (.slice pn a.ns.length cn) (.slice pz a.zs.length cz)).toArray) _ rfl
  have KB := Lib.hid ((Below.refl w.heap.size w).alloc (Nat.le_refl _) (.cells (cellsV a.id (.slice pb a.bl.length cb) (.slice pn a.ns.length cn) (.slice pz a.zs.length cz)).toArray 30))
  obtain ⟨B, hB⟩ : ∃ B, w.heap.size = B := ⟨_, rfl⟩
  have HBE := Lib.hid hB
  rw [hB] at k0
  have K0 := Lib.hid k0
  have e4 : (cellsV a.id (.slice pb a.bl.length cb) (.slice pn a.ns.length cn) (.slice pz a.zs.length cz)).length = 4 := rfl
  clear k0
  by_cases hm : mayH a.bl.length a.ns a.zs = true
  · obtain ⟨m1, m2, m3, m4, m5, m6⟩ := mayH_iff.1 hm
    have h15 := blocks_le hm
    have HMT := Lib.hid (fun wx h => HM.out true wx hm h)
    have hfine : ∀ k, k < a.ns.length → fineH (a.ns.getD k []) (a.zs.getD k 0) := fun k hk => by
      have q1 := m3 _ (getN_mem hk)
      have q2 := m4 _ (getZ_mem (show k < a.zs.length by omega))
      exact ⟨q1.1, q1.2, q2.1, q2.2⟩
    have hen := enD_all m2
    have HBY : Hid (Bys (enD a a.ns.length)) := Lib.hid (by rw [hen]; exact ver_codes.bys _ (ver_okR hk hm).1)
    have hs : s = tx (enD a a.ns.length) ∧ er = 0 := by
      unfold encT at hE
      rw [if_pos hm, ← hen] at hE
      simp only [Prod.mk.injEq] at hE
      exact ⟨hE.1.symm, hE.2.symm⟩
    obtain ⟨rfl, rfl⟩ := hs
    have HBL := Lib.hid (enB_len hk.2.1 h15)
    have HCL := Lib.hid (enC_len hk.2.1 h15 m1)
    have HDL := Lib.hid (enD_len hk.2.1 h15 m1 m2 hfine)
    have HF := Lib.hid hfine
    have HK := Lib.hid hk
    have SB := Lib.hid sb
    have SN := Lib.hid sn
    have SZ := Lib.hid sz
    have HL := Lib.hid m2
    have HI := Lib.hid hk.1
    have H15 := Lib.hid h15
    have H12 := Lib.hid m1
    clear hE hm hen hfine m1 m2 m3 m4 m5 m6 sb sn sz h1 h2 h3 hk HM h15
    generalize hW1 : (w.alloc (.cells (cellsV a.id (.slice pb a.bl.length cb) (.slice pn a.ns.length cn) (.slice pz a.zs.length cz)).toArray 30)) = w1 at *
    go_enter Try.func61, Try.ntmps61
    go_wp2_with (first | (refine wpList_load_blk rfl 30 _ rfl _ rfl K0.out Try.underlying30 rfl (by rw [size_ver, e4]) ?_))
    refine (HMT.out w1 KB.out).mono ?_
    rintro e w2 ⟨rfl, hb2⟩
    obtain ⟨N, hN⟩ : ∃ N, w2.heap.size = N := ⟨_, rfl⟩
    have K2 := Lib.hid (K0.out.below hb2 K0.out.lt)
    have HB2 := Lib.hid (KB.out.trans (hb2.mono KB.out.size))
    have HNE := Lib.hid hN
    have HBN : Hid (B < N) := Lib.hid (by rw [← hN]; exact K2.out.lt)
    have HWN : Hid (w.heap.size ≤ N) := Lib.hid (by rw [← hN]; exact HB2.out.size)
    have KX : Hid (∀ wx, Below N w2 wx → Blk wx B 30 (cellsV a.id (.slice pb a.bl.length cb) (.slice pn a.ns.length cn) (.slice pz a.zs.length cz))) := Lib.hid fun wx h => K2.out.below h HBN.out
    have GX : Hid (∀ wx, Below N w2 wx → Below w.heap.size w wx) := Lib.hid fun wx h => HB2.out.trans (h.mono HWN.out)
    have SZX : Hid (∀ wx, Below N w2 wx → N ≤ wx.heap.size) := Lib.hid fun wx h => by have := h.size; rw [HNE.out] at this; exact this
    have bl0 := Bld.new w2 N (by rw [hN]; exact Nat.le_refl _)
    have gb0 := (Below.refl N w2).alloc (show N ≤ w2.heap.size by rw [hN]; exact Nat.le_refl _) (.cells #[.pointer none, .slice none 0 0] 62)
    rw [hN] at bl0
    have BL0 := Lib.hid bl0
    have G0 := Lib.hid gb0
    have c0 := (KX.out _ gb0).cell 0
    simp only [cellsV, List.getElem?_cons_zero] at c0
    have i1 : (a.id : Int) < 4294967296 := by have := HI.out; omega
    have u1 : IntKind.u64.wrap (a.id : Int) = (a.id : Int) := wraps_u64 _ (by omega) (by omega)
    have QA := Lib.hid (fun wx => v_Big a.id 4 wx (by decide) (by decide) (by have := HI.out; omega))
    have hz1 : (tx (bigL a.id 4)).size = 4 := by rw [tx_size, big_len]
    have hs1 : sl (tx (bigL a.id 4)) = bigL a.id 4 := sl_tx (big_bys a.id 4)
    have HS1 := Lib.hid hs1
    have HZ1 := Lib.hid hz1
    clear hs1 hz1 hb2 HMT KB K2 bl0 gb0
    generalize tx (bigL a.id 4) = S1 at *
    go_wp2_with fail
    refine (QA.out _).mono ?_
    rintro e w3 ⟨rfl, hb3⟩
    have BL3 := Lib.hid (BL0.out.keep hb3)
    have G3 := Lib.hid (G0.out.trans (hb3.mono (SZX.out _ G0.out)))
    clear hb3 c0 BL0 G0
    go_wp2_with fail
    (with_reducible refine (b_WriteString w3 N N [] S1 BL3.out (by rw [HZ1.out]; decide) (SZX.out _ G3.out)).mono ?_)
    rintro e w4 ⟨rfl, bl4, hb4⟩
    have BL4 := Lib.hid (show Bld w4 N N (bigL a.id 4) by rw [← HS1.out]; exact bl4)
    have G4 := Lib.hid (G3.out.trans hb4)
    have c1 := (KX.out _ G4.out).cell 1
    simp only [cellsV, List.getElem?_cons_zero, List.getElem?_cons_succ] at c1
    clear bl4 hb4 BL3 G3 QA
    go_wp2_with fail
    (with_reducible refine (e_put a.bl.length w4 N N (bigL a.id 4) BL4.out (by have := H15.out; omega) (by rw [big_len]; decide) (SZX.out _ G4.out)).mono ?_)
    rintro e w5 ⟨rfl, bl5, hb5⟩
    have BL5 := Lib.hid (show Bld w5 N N (enB a 0) by unfold enB enA; simpa using bl5)
    have G5 := Lib.hid (G4.out.trans hb5)
    have c1' := (KX.out _ G5.out).cell 1
    simp only [cellsV, List.getElem?_cons_zero, List.getElem?_cons_succ] at c1'
    clear bl5 hb5 BL4 G4 c1
    go_wp2
    go_loopw [27] (fun i wr => ∃ k : Nat, k ≤ a.bl.length ∧ i = .int .i64 (k : Int) ∧ Bld wr N N (enB a k) ∧ Below N w2 wr) (fun i _ => a.bl.length - (intOf i).toNat)
    case atStart => exact ⟨0, by omega, rfl, BL5.out, G5.out⟩
    case round =>
      obtain ⟨k, hk, rfl, bl, gb⟩ := hrel
      have BL := Lib.hid bl
      have GB := Lib.hid gb
      clear bl gb BL5 G5 c1'
      by_cases hlt : k < a.bl.length
      · obtain ⟨ad, rfl, hc⟩ := (SB.out.below (GX.out _ GB.out)).row (rowsH_at hlt)
        have d1 : (k : Int) < (a.bl.length : Int) := by omega
        have i2 : (a.bl.length : Int) ≤ 15 := by have := H15.out; omega
        have hmem := HK.out.2.1 _ (getN_mem hlt)
        have hsn := enB_snoc a hlt
        have hz := HBL.out k
        have HSN := Lib.hid hsn
        obtain ⟨R, hRR⟩ : ∃ R, rowH (a.bl.getD k []) = R := ⟨_, rfl⟩
        rw [hRR] at hc
        have HC := Lib.hid hc
        have HX32 := Lib.hid hmem.1
        have HRL : Hid (R.length = 32) := Lib.hid (by rw [← hRR]; exact rowH_len hmem.1)
        have hro : R.toArray.all (·.oneCell') = true := by rw [← hRR]; exact rowH_one (a.bl.getD k [])
        obtain ⟨T, hT⟩ : ∃ T, wr.heap.size = T := ⟨_, rfl⟩
        obtain ⟨ZR, hZR⟩ : ∃ ZR, ints .u8 (nn (zerN 32)) = ZR := ⟨_, rfl⟩
        have hle : ZR.length = 32 := by rw [← hZR, ints_length, nn_length, zerN_len]
        have hal : (Instr.alloc 34 true (.tuple #[])).run Try.prog wr = .ok (.pointer (some ⟨wr.heap.size, 0, none⟩)) (wr.alloc (.cells ZR.toArray 34)) := by rw [← hZR]; exact alloc_h32 _
        clear hZR
        have HAL := Lib.hid hal
        have k1 := Blk.newAt wr T hT 34 (c := ZR.toArray) ZR rfl
        have k2 := k1.row R (by rw [HRL.out, hle])
        have kb := below_setRow ((Below.refl wr.heap.size wr).alloc (Nat.le_refl _) (.cells ZR.toArray 34)) (show wr.heap.size ≤ T by rw [hT]; exact Nat.le_refl _) R.toArray
        have bl6 := BL.out.keep kb
        have gb6 := GB.out.trans (kb.mono (SZX.out _ GB.out))
        have K1 := Lib.hid k1
        obtain ⟨w6, hw6⟩ : ∃ w6, (wr.alloc (.cells ZR.toArray 34)).setRow T R.toArray = w6 := ⟨_, rfl⟩
        rw [hw6] at k2 bl6 gb6
        have k3 : Blk w6 T 34 (ints .u8 (nn (a.bl.getD k []))) := by rw [show ints .u8 (nn (a.bl.getD k [])) = R from hRR]; exact k2
        have HW := Lib.hid (b_Write w6 N N (enB a k) (a.bl.getD k []) T 32 34 bl6 k3 (by decide) (by rw [hmem.1]; decide) (by rw [hmem.1]; omega) (SZX.out _ gb6))
        rw [HX32.out] at HW
        have GB6 := Lib.hid gb6
        have HZRL : Hid (ZR.length = R.length) := Lib.hid (by rw [hle, HRL.out])
        have HRO := Lib.hid hro
        have HW6 := Lib.hid hw6
        clear hro hle hw6 hRR hsn hal hmem hc k1 k2 k3 kb bl6 gb6 hz
        go_wp2_with (first | (refine wpList_load_addr rfl 34 _ rfl _ rfl R HC.out Try.underlying34 rfl (by rw [size_hashV, HRL.out]) ?_) | (refine wpList_alloc_n rfl 34 rfl T hT ZR.toArray HAL.out ?_) | (refine wpList_store_blk rfl 34 _ _ rfl T R rfl rfl K1.out (by rw [size_hashV, HRL.out]) HZRL.out HRO.out ?_; rw [HW6.out]))
        (with_reducible refine HW.out.mono ?_)
        rintro e w7 ⟨rfl, bl7, hb7⟩
        have BL7 := Lib.hid bl7
        have GB7 := Lib.hid (GB6.out.trans hb7)
        clear bl7 hb7 K1 HW GB6
        go_wp2
        go_roundw
        case rel => exact ⟨k + 1, by omega, by go_num, by rw [HSN.out]; exact BL7.out, GB7.out⟩
        case measure => simp [intOf]; omega
      · obtain rfl : k = a.bl.length := by omega
        have c2 := (KX.out _ GB.out).cell 2
        simp only [cellsV, List.getElem?_cons_zero, List.getElem?_cons_succ] at c2
        clear hlt
        go_wp2_with fail
        (with_reducible refine (e_put a.ns.length wr N N (enB a a.bl.length) BL.out (by have := H12.out; omega) (by have := HBL.out a.bl.length; omega) (SZX.out _ GB.out)).mono ?_)
        rintro e w5 ⟨rfl, bl5, hb5⟩
        have BL5 := Lib.hid (show Bld w5 N N (enD a 0) by unfold enD enC; simpa using bl5)
        have G5 := Lib.hid (GB.out.trans hb5)
        have c2' := (KX.out _ G5.out).cell 2
        simp only [cellsV, List.getElem?_cons_zero, List.getElem?_cons_succ] at c2'
        clear bl5 hb5 BL GB c2
        go_wp2
        go_loopw [42] (fun i wr => ∃ k : Nat, k ≤ a.ns.length ∧ i = .int .i64 (k : Int) ∧ Bld wr N N (enD a k) ∧ Below N w2 wr) (fun i _ => a.ns.length - (intOf i).toNat)
        case atStart => exact ⟨0, by omega, rfl, BL5.out, G5.out⟩
        case round =>
          obtain ⟨k, hk, rfl, bl, gb⟩ := hrel
          have BL := Lib.hid bl
          have GB := Lib.hid gb
          clear bl gb BL5 G5 c2'
          by_cases hlt : k < a.ns.length
          · obtain ⟨an, rfl, cn1⟩ := SlS.cell (SN.out.below (GX.out _ GB.out)) hlt
            have d1 : (k : Int) < (a.ns.length : Int) := by omega
            have i3 : (a.ns.length : Int) ≤ 12 := by have := H12.out; omega
            have hzl : k < a.zs.length := by rw [← HL.out]; exact hlt
            have dz : (k : Int) < (a.zs.length : Int) := by omega
            have q := HF.out k hlt
            unfold fineH at q
            have hnm : Bys (a.ns.getD k []) := HK.out.2.2.1 _ (getN_mem hlt)
            obtain ⟨z, hzz⟩ : ∃ z : Nat, a.zs.getD k 0 = (z : Int) := ⟨(a.zs.getD k 0).toNat, by omega⟩
            have hsn : enD a (k + 1) = (enD a k ++ (putL (a.ns.getD k []).length ++ a.ns.getD k [])) ++ putL z := by
              rw [enD_snoc a hlt hzl, hzz, Int.toNat_natCast]
            rw [hzz] at q
            have hnz : (tx (a.ns.getD k [])).size = (a.ns.getD k []).length := tx_size _
            have QT := Lib.hid (v_Text (tx (a.ns.getD k [])) wr (by omega))
            rw [sl_tx hnm, hnz] at QT
            have hz1 := HDL.out k hk
            have h12 := H12.out
            have hz2 : (putL (a.ns.getD k []).length ++ a.ns.getD k []).length ≤ 21 := by
              rw [List.length_append, put_len_small (by omega)]; omega
            have hs2 : sl (tx (putL (a.ns.getD k []).length ++ a.ns.getD k [])) = putL (a.ns.getD k []).length ++ a.ns.getD k [] := sl_tx ((put_bys (by omega)).app hnm)
            have hsz : (tx (putL (a.ns.getD k []).length ++ a.ns.getD k [])).size = (putL (a.ns.getD k []).length ++ a.ns.getD k []).length := tx_size _
            have SZC : Hid (∀ wx, Below N w2 wx → wx.cell? ⟨B, 3, none⟩ = some (.slice pz a.zs.length cz)) := Lib.hid fun wx h => by
              have := (KX.out wx h).cell 3
              simpa [cellsV] using this
            have SZD : Hid (∀ wx, Below N w2 wx → ∃ az : Addr, pz = some az ∧ wx.cell? (az.add k) = some (.int .i64 (z : Int))) := Lib.hid fun wx h => by
              have := SlZF.cell (l := a.zs) (j := k) (SZ.out.below (GX.out _ h)) hzl
              rw [hzz] at this
              exact this
            have HSN := Lib.hid hsn
            have HS2 := Lib.hid hs2
            have HD1 : Hid ((enD a k).length ≤ 1000) := Lib.hid (by omega)
            have HD2 : Hid ((tx (putL (a.ns.getD k []).length ++ a.ns.getD k [])).size ≤ 21) := Lib.hid (by omega)
            have hz300 : z ≤ 300 := by omega
            clear hsn hs2 hsz hz1 hz2 hnz hzz q hnm
            generalize hMM : putL (a.ns.getD k []).length ++ a.ns.getD k [] = M at *
            generalize tx (a.ns.getD k []) = NM at *
            generalize tx M = TM at *
            clear hMM
            go_wp2_with fail
            (with_reducible refine QT.out.mono ?_)
            rintro e w6 ⟨rfl, hb6⟩
            have BL6 := Lib.hid (BL.out.keep hb6)
            have G6 := Lib.hid (GB.out.trans (hb6.mono (SZX.out _ GB.out)))
            clear hb6 BL GB QT
            go_wp2_with fail
            (with_reducible refine (b_WriteString w6 N N (enD a k) TM BL6.out (by have := HD1.out; have := HD2.out; omega) (SZX.out _ G6.out)).mono ?_)
            rintro e w7 ⟨rfl, bl7, hb7⟩
            have BL7 := Lib.hid (show Bld w7 N N (enD a k ++ M) by rw [← HS2.out]; exact bl7)
            have HM1 : Hid ((enD a k ++ M).length ≤ 1000000) := Lib.hid (by rw [List.length_append, ← HS2.out, sl_len]; have := HD1.out; have := HD2.out; omega)
            have G7 := Lib.hid (G6.out.trans hb7)
            clear bl7 hb7 BL6 G6
            have c3 := SZC.out _ G7.out
            obtain ⟨az, rfl, c4⟩ := SZD.out _ G7.out
            go_wp2_with fail
            (with_reducible refine (e_put z w7 N N (enD a k ++ M) BL7.out (by omega) HM1.out (SZX.out _ G7.out)).mono ?_)
            rintro e w8 ⟨rfl, bl8, hb8⟩
            have BL8 := Lib.hid bl8
            have G8 := Lib.hid (G7.out.trans hb8)
            clear bl8 hb8 BL7 G7
            go_wp2
            go_roundw
            case rel => exact ⟨k + 1, by omega, by go_num, by rw [HSN.out]; exact BL8.out, G8.out⟩
            case measure => simp [intOf]; omega
          · obtain rfl : k = a.ns.length := by omega
            have HST := Lib.hid (b_String wr N N (enD a a.ns.length) BL.out HBY.out (by have := HDL.out a.ns.length (Nat.le_refl _); have := H12.out; omega))
            clear hlt
            go_wp2_with fail
            (with_reducible refine HST.out.mono ?_)
            rintro e w9 ⟨rfl, hb9⟩
            have G9 := Lib.hid (GX.out _ (GB.out.trans hb9))
            clear hb9
            go_wp2
            go_ret2
            exact ⟨rfl, G9.out⟩
  · have e0 : s = ⟨#[]⟩ ∧ er = 1 := by
      unfold encT at hE
      rw [if_neg hm] at hE
      simp only [Prod.mk.injEq] at hE
      exact ⟨hE.1.symm, hE.2.symm⟩
    obtain ⟨rfl, rfl⟩ := e0
    have HMF := Lib.hid (fun wx h => HM.out false wx (by simpa using hm) h)
    clear hE hm sb sn sz h1 h2 h3 hk HM
    generalize hW1 : (w.alloc (.cells (cellsV a.id (.slice pb a.bl.length cb) (.slice pn a.ns.length cn) (.slice pz a.zs.length cz)).toArray 30)) = w1 at *
    go_enter Try.func61, Try.ntmps61
    go_wp2_with (first | (refine wpList_load_blk rfl 30 _ rfl _ rfl K0.out Try.underlying30 rfl (by rw [size_ver, e4]) ?_))
    refine (HMF.out w1 KB.out).mono ?_
    rintro e w2 ⟨rfl, hb2⟩
    have HB2 := Lib.hid (KB.out.trans (hb2.mono KB.out.size))
    clear hb2
    go_wp2
    go_ret2
    exact ⟨rfl, HB2.out⟩
end Go.Proofs.Ytloogjdojojehaa
