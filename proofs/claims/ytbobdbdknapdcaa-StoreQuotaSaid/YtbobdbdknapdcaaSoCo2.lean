/- The store's contents: mark, has. -/
import Derived.Test.YtbobdbdknapdcaaSoCon
import Derived.Test.YtbobdbdknapdcaaG1
namespace Go.Proofs.Ytbobdbdknapdcaa
open Go.RowKit
set_option linter.unusedVariables false

variable {w w' : World} {base B o : Nat} {ty : TypeId} {pre : List Value} {M k : Nat} {D : DataW Unit} {v : Value} {L : List (List Nat)} {e : Nat} {mk : Bool}
theorem ConW.marked (h : ConW w base B o ty pre M k D v L e mk) (n : Nat) :
    ConW ((w.setCell ⟨B, o + 2, none⟩ (.int .u64 (n : Int))).setCell ⟨B, o + 3, none⟩ (.bool true)) base B o ty pre M k D v L n true ∧ w.grownBy ((w.setCell ⟨B, o + 2, none⟩ (.int .u64 (n : Int))).setCell ⟨B, o + 3, none⟩ (.bool true)) (some B) := by
  have g1 := grown_setCell w ⟨B, o + 2, none⟩ (.int .u64 (n : Int))
  have g2 := grown_setCell (w.setCell ⟨B, o + 2, none⟩ (.int .u64 (n : Int))) ⟨B, o + 3, none⟩ (.bool true)
  have g := g1.trans g2
  refine ⟨⟨?_, h.off, h.ty, h.map.same (g.block M h.map.map.lt (fun e => h.neM (Option.some.inj e).symm)), h.own.grownO g (fun i hi e => h.own.ne h.blk h.ty i hi (Option.some.inj e)), h.hB, h.hM, h.nod, h.bys⟩, g⟩
  have := (h.blk.set (o + 2) (.int .u64 (n : Int))).set (o + 3) (.bool true)
  refine this.cast ?_
  rw [← h.off]
  unfold coV
  simp
set_option maxRecDepth 100000 in
theorem c_mark (h : ConW w base B o ty pre M k D v L e mk) (n : Nat) :
    Calls Try.prog 32 #[.pointer (some ⟨B, o, none⟩), .int .u64 (n : Int)] w fun x w' => x = .returned (.tuple #[]) ∧ ConW w' base B o ty pre M k D v L n true ∧ w.grownBy w' (some B) := by
  have c2 := h.at_ 2
  have c3 := h.at_ 3
  have f2 := h.blk.free (o + 2)
  have f3 := (h.blk.set (o + 2) (.int .u64 (n : Int))).free (o + 3)
  have c3' := (h.blk.set (o + 2) (.int .u64 (n : Int))).cell (o + 3)
  have hc3 : ((pre ++ coV M v e mk).set (o + 2) (.int .u64 (n : Int)))[o + 3]? = some (.bool mk) := by
    rw [← h.off]
    unfold coV
    simp
  rw [hc3] at c3'
  simp only [coV, List.getElem?_cons_zero, List.getElem?_cons_succ] at c2 c3
  have HM := Lib.hid (h.marked n)
  clear h hc3
  go_enter Try.func32, Try.ntmps32
  go_wp2
  go_end0
  exact ⟨rfl, HM.out⟩
/-! ### has -/
/-- blocks of one type may be turned, all others stay -/
def KeepT (t : TypeId) (W W' : World) : Prop := W.heap.size ≤ W'.heap.size ∧ ∀ b cs, Blk W b t cs → ∃ cs', Blk W' b t cs' ∧ cs'.length = cs.length
theorem KeepT.refl (t : TypeId) (W : World) : KeepT t W W := ⟨Nat.le_refl _, fun b cs h => ⟨cs, h, rfl⟩⟩
theorem KeepT.below {t : TypeId} {W W' : World} (h : Below W.heap.size W W') : KeepT t W W' := ⟨h.size, fun b cs hb => ⟨cs, hb.below h hb.lt, rfl⟩⟩
theorem KeepT.row {t : TypeId} {W : World} {g : Nat} {old : List Value} (hg : Blk W g t old) (cs : List Value) (hl : cs.length = old.length) : KeepT t W (W.setRow g cs.toArray) :=
  ⟨by simp, fun b us hb => by
    by_cases e : b = g
    · subst e
      refine ⟨cs, hb.row cs ?_, ?_⟩
      · unfold Blk at hg hb
        rw [hg] at hb
        simp at hb
        rw [hl, hb]
      · unfold Blk at hg hb
        rw [hg] at hb
        simp at hb
        rw [hl, hb]
    · exact ⟨us, hb.rowOther e _, rfl⟩⟩
def hasS (W0 : World) (B o M : Nat) (y : Value) (b : Bool) (l : Value) (i : Nat) (v : Value) (W : World) : Prop :=
  match i with
  | 0 | 1 | 2 => v = .pointer (some ⟨B, o, none⟩)
  | 3 => v = .map (some M)
  | 4 => v = l
  | 5 | 6 => v = .tuple #[y, .bool b]
  | 7 => v = y
  | 8 => v = .bool b
  | 9 => ∃ z cs, v = .pointer (some ⟨z, 0, none⟩) ∧ W0.heap.size ≤ z ∧ Blk W z 75 cs ∧ cs.length = 1
  | _ => True
theorem hasS_mono {W0 : World} {B o M : Nat} {y : Value} {b : Bool} {l : Value} (i : Nat) (v : Value) (W W' : World) (h : hasS W0 B o M y b l i v W) (hk : KeepT 75 W W') : hasS W0 B o M y b l i v W' := by
  match i with
  | 0 | 1 | 2 | 3 | 4 | 5 | 6 | 7 | 8 => exact h
  | 9 =>
    obtain ⟨z, cs, h1, h2, h3, h4⟩ := h
    obtain ⟨cs', h5, h6⟩ := hk.2 z cs h3
    exact ⟨z, cs', h1, h2, h5, h6.trans h4⟩
  | _ + 10 => trivial
theorem size_bk : (Try.prog.info? 75).map (·.size) = some 1 := by kernel_rfl
theorem alloc_bk (wx : World) : (Instr.alloc 75 true (.tuple #[])).run Try.prog wx = .ok (.pointer (some ⟨wx.heap.size, 0, none⟩)) (wx.alloc (.cells #[.string ⟨#[]⟩] 75)) := by kernel_rfl
theorem size_hashC : (Try.prog.info? 30).map (·.size) = some 32 := by kernel_rfl
set_option maxRecDepth 100000 in
set_option maxHeartbeats 2000000 in
theorem c_has (h : ConW w base B o ty pre M k D v L e mk) (l : List Int) (ho : Octets l) (h32 : l.length = 32) (b : Bool) (hb : decide (l ∈ L.map nmB) = b) :
    Calls Try.prog 19 #[.pointer (some ⟨B, o, none⟩), agN l] w fun x w' => x = .returned (.bool b) ∧ Below w.heap.size w w' := by
  obtain ⟨x, hlook⟩ : ∃ x : List Nat, ∀ W, Below w.heap.size w W → (Instr.lookup 51 (.map (some M)) (agN l) true).run Try.prog W = .ok (.tuple #[bkV x, .bool b]) W := by
    by_cases hm : l ∈ L.map nmB
    · obtain ⟨x, hx, rfl⟩ := List.mem_map.1 hm
      rw [decide_eq_true hm] at hb
      subst hb
      exact ⟨x, fun W hW => (h.map.below hW).look hx true⟩
    · rw [decide_eq_false hm] at hb
      subst hb
      exact ⟨[], fun W hW => (h.map.below hW).none ho h32 hm⟩
  obtain ⟨R, hR⟩ : ∃ R, ints .u8 l = R := ⟨_, rfl⟩
  have hRl : R.length = 32 := by rw [← hR, ints_length, h32]
  have hag : agN l = .agg R.toArray := by rw [← hR]; rfl
  rw [hag] at hlook ⊢
  obtain ⟨Y, hY⟩ : ∃ Y, w.heap.size = Y := ⟨_, rfl⟩
  obtain ⟨W0, hW0⟩ : ∃ W0, w.alloc (.cells R.toArray 30) = W0 := ⟨_, rfl⟩
  have kY : Blk W0 Y 30 R := by rw [← hW0]; exact Blk.newAt w Y hY _ R rfl
  have hb0 : Below w.heap.size w W0 := by rw [← hW0]; exact (Below.refl w.heap.size w).alloc (Nat.le_refl _) _
  have c0 : ∀ W, Below W0.heap.size W0 W → W.cell? ⟨B, o, none⟩ = some (.map (some M)) := fun W hW => by
    have := ((h.below hb0).below hW).at_ 0
    exact this
  have hlk : ∀ W, Below W0.heap.size W0 W → (Instr.lookup 51 (.map (some M)) (.agg R.toArray) true).run Try.prog W = .ok (.tuple #[bkV x, .bool b]) W := fun W hW => hlook W (hb0.trans (hW.mono hb0.size))
  have HC0 := Lib.hid c0
  have HLK := Lib.hid hlk
  have HKY := Lib.hid kY
  have HB0 := Lib.hid hb0
  have HRL := Lib.hid hRl
  clear h hlook hb c0 hlk kY hb0 hRl hag hR ho h32
  obtain ⟨y, hy⟩ : ∃ y, bkV x = y := ⟨_, rfl⟩
  have HYV : Hid (y = .agg #[.string (tx x)]) := Lib.hid hy.symm
  rw [hy] at HLK
  go_enter Try.func19, Try.ntmps19
  go_wp2_with fail
  refine region_mix 10 11 (by decide) mixed (by kernel_rfl) (by kernel_rfl) (fun u => #[_, _, _, _, _, u 9, _, u 6, u 0, u 1, u 2, u 3, u 4, u 5, u 7, u 8, _]) [] (fun i => undef) rfl
    (fun _ W => Below W0.heap.size W0 W) (show Below _ _ _ from (Below.refl _ _).drew) (fun _ W W' => KeepT 75 W W') (hasS W0 B o M y b (.agg R.toArray)) ?mono ?step ?one ?last
  case mono => exact fun bb i v W W' _ h hk => hasS_mono i v W W' h hk
  case step =>
    intro bb u W j op hj hjk _ ho hC hd
    have hr := KeepT.refl 75 W
    rcases j with _ | _ | _ | _ | _ | _ | _ | _ | _ | _ | _ | j
    all_goals try (simp only [List.getElem?_cons_zero, List.getElem?_cons_succ, Option.some.injEq] at ho; subst ho)
    · go_wp2_with fail
      exact ⟨_, rfl, rfl, hC, hr⟩
    · have h1 : u 0 = .pointer (some ⟨B, o, none⟩) := hd ⟨0, .data⟩ (by simp) rfl
      rw [h1]
      go_wp2_with fail
      exact ⟨_, by simp [upd, h1], rfl, hC, hr⟩
    · have h1 : u 1 = .pointer (some ⟨B, o, none⟩) := hd ⟨1, .data⟩ (by simp) rfl
      rw [h1]
      go_wp2_with fail
      exact ⟨_, by simp [upd, h1], rfl, hC, hr⟩
    · have h1 : u 2 = .pointer (some ⟨B, o, none⟩) := hd ⟨2, .data⟩ (by simp) rfl
      have c2 := HC0.out W hC
      rw [h1]
      go_wp2_with fail
      exact ⟨_, by simp [upd, h1], rfl, hC, hr⟩
    · have hk := HKY.out.below hC HKY.out.lt
      go_wp2_with (refine wpList_load_blk rfl 30 _ rfl Y rfl hk Try.underlying30 rfl (by rw [size_hashC, HRL.out]) ?_)
      exact ⟨_, rfl, rfl, hC, hr⟩
    · have h1 : u 3 = .map (some M) := hd ⟨3, .data⟩ (by simp) rfl
      have h2 : u 4 = .agg R.toArray := hd ⟨4, .data⟩ (by simp) rfl
      have hl := HLK.out W hC
      rw [h1, h2]
      go_wp2_with fail
      exact ⟨_, by simp [upd, h1, h2], rfl, hC, hr⟩
    · have h1 : u 5 = .tuple #[y, .bool b] := hd ⟨5, .data⟩ (by simp) rfl
      rw [h1]
      go_wp2_with fail
      exact ⟨_, by simp [upd, h1], rfl, hC, hr⟩
    · have h1 : u 6 = .tuple #[y, .bool b] := hd ⟨6, .data⟩ (by simp) rfl
      rw [h1]
      go_wp2_with fail
      exact ⟨_, by simp [upd, h1], rfl, hC, hr⟩
    · have h1 : u 6 = .tuple #[y, .bool b] := hd ⟨6, .data⟩ (by simp) rfl
      rw [h1]
      go_wp2_with fail
      exact ⟨_, by simp [upd, h1], rfl, hC, hr⟩
    · have hz := hC.size
      have hal := (Below.refl W.heap.size W).alloc (Nat.le_refl _) (.cells #[.string ⟨#[]⟩] 75)
      have hC' : Below W0.heap.size W0 (W.alloc (.cells #[.string ⟨#[]⟩] 75)) := Below.alloc hC hz _
      have kz := Blk.new' W 75 (c := #[.string ⟨#[]⟩]) [.string ⟨#[]⟩] rfl
      go_wp2_with (refine wpList_alloc_n rfl 75 rfl W.heap.size rfl _ (alloc_bk _) ?_)
      exact ⟨_, rfl, ⟨W.heap.size, _, rfl, hz, kz, rfl⟩, hC', .below hal⟩
    · omega
    · omega
  case one =>
    intro u W op ho hC hd
    simp only [List.getElem?_cons_zero, List.getElem?_cons_succ, Option.some.injEq] at ho
    subst ho
    have h7 : u 7 = y := hd ⟨7, .data⟩ (by simp) rfl
    obtain ⟨z, cs, h9, hz, kz, kl⟩ : ∃ z cs, u 9 = .pointer (some ⟨z, 0, none⟩) ∧ W0.heap.size ≤ z ∧ Blk W z 75 cs ∧ cs.length = 1 := hd ⟨9, .data⟩ (by simp) rfl
    have hk := KeepT.row kz [.string (tx x)] kl.symm
    have hC' : Below W0.heap.size W0 (W.setRow z [.string (tx x)].toArray) := below_setRow hC hz _
    rw [h7, h9, HYV.out]
    go_wp2_with (refine wpList_store_blk rfl 75 _ _ rfl z [.string (tx x)] rfl rfl kz (by rw [size_bk]; rfl) (by rw [kl]; rfl) (by simp [Value.oneCell']) ?_)
    exact ⟨undef, by simp [upd, h7, h9, HYV.out], trivial, hC', hk⟩
  case last =>
    intro u W op ho hC hS
    simp only [List.getElem?_cons_zero, List.getElem?_cons_succ, Option.some.injEq] at ho
    subst ho
    have h8 : u 8 = .bool b := hS 8 (by decide)
    have hfin := HB0.out.trans (hC.mono HB0.out.size)
    clear hS hC
    rw [h8]
    go_wp2
    go_ret
    exact ⟨rfl, hfin⟩
end Go.Proofs.Ytbobdbdknapdcaa
