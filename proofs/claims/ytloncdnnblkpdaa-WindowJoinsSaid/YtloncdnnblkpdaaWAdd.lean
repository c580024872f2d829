/- Walks of what makes places, adds places up to one, and tells the token at one. -/
import Derived.Test.YtloncdnnblkpdaaWMat
import Derived.Maps.AppendAt
namespace Go.Proofs.Ytloncdnnblkpdaa
open Go.RowKit
set_option linter.unusedVariables false

set_option maxRecDepth 100000 in
theorem p_newPlaces (s : ByteArray) (w : World) :
    Calls Try.prog 17 #[.string s] w fun e w' => e = .returned (.pointer (some ⟨w.heap.size + 1, 0, none⟩)) ∧ PlW w' w.heap.size (w.heap.size + 1) w.heap.size (.slice none 0 0) s 0 ∧ Below w.heap.size w w' := by
  have hmm := @run_makeMap Try.prog
  have k1 := World.ownsMap_made (H := Unit) w Try.prog 9 (plainElem (H := Unit) Try.prog 3)
  have k2 := k1.alloc (.cells #[.string s, .map (some w.heap.size), .slice none 0 0] 59)
  have k3 : Blk ((w.alloc (.map #[] 0)).alloc (.cells #[.string s, .map (some w.heap.size), .slice none 0 0] 59)) (w.heap.size + 1) 59 (plc s w.heap.size (.slice none 0 0)) := Blk.new2 w _ _ _ rfl
  have kb := ((Below.refl w.heap.size w).alloc (Nat.le_refl _) (.map #[] 0)).alloc (by simp) (.cells #[.string s, .map (some w.heap.size), .slice none 0 0] 59)
  have hpl : PlW ((w.alloc (.map #[] 0)).alloc (.cells #[.string s, .map (some w.heap.size), .slice none 0 0] 59)) w.heap.size (w.heap.size + 1) w.heap.size (.slice none 0 0) s 0 := ⟨k3, k2, OwnR.nil _ _ _ _, by omega, Nat.le_refl _⟩
  have HPL := Lib.hid hpl
  have KB := Lib.hid kb
  clear k1 k2 k3 kb hpl
  go_enter Try.func17, Try.ntmps17
  go_wp2
  go_ret
  exact ⟨rfl, HPL.out, KB.out⟩
/-! ### what is added to -/
theorem PlW.ne {w : World} {B P M : Nat} {v : Value} {s : ByteArray} {n : Nat} (h : PlW w B P M v s n) : P ≠ M := by
  rintro rfl
  obtain ⟨es, clock, hb, _⟩ := h.map
  have := h.blk
  unfold Blk at this
  rw [hb] at this
  simp at this
theorem own_ne_map {w : World} {base : Nat} {e : TypeId} {k : Nat} {v : Value} {rows : List (List Value)} (h : OwnR w base e k v rows) {H : Type} {P : Program} {kt : TypeId} {R : Value → Option (DataW H × List MemPlace)} {M n : Nat} {D : DataW H} (hm : w.ownsMap P kt R M n D) : ∀ i, v.ownBlock = some i → i ≠ M := by
  rintro i hi rfl
  obtain ⟨es, clock, hb, _⟩ := hm
  rcases h.2.2 with ⟨hv, _⟩ | ⟨g, cap, cur, hv, hg, hh, r⟩
  · rw [hv] at hi; cases hi
  · rw [hv] at hi
    cases hi
    change w.heap[g]? = _ at hb
    rw [hb] at hh
    simp at hh
theorem PlW.below {w w' : World} {B P M : Nat} {v : Value} {s : ByteArray} {n : Nat} (h : PlW w B P M v s n) (hb : Below w.heap.size w w') : PlW w' B P M v s n :=
  ⟨h.blk.below hb h.blk.lt, h.map.kept (grown_below hb) (by simp), h.own.keep hb, h.hP, h.hM⟩
/-- what adding has turned -/
structure AddT (w w' : World) (B P M : Nat) (v v' : Value) : Prop where
  below : Below B w w'
  block : ∀ k, k < w.heap.size → k ≠ P → k ≠ M → some k ≠ v.ownBlock → w'.heap[k]? = w.heap[k]?
  own : v'.ownBlock = v.ownBlock ∨ ∃ g, v'.ownBlock = some g ∧ w.heap.size ≤ g
theorem AddT.refl (w : World) (B P M : Nat) (v : Value) : AddT w w B P M v v := ⟨Below.refl _ _, fun _ _ _ _ _ => rfl, .inl rfl⟩
theorem AddT.trans {a b c : World} {B P M : Nat} {v v1 v2 : Value} (h : AddT a b B P M v v1) (h2 : AddT b c B P M v1 v2) : AddT a c B P M v v2 := by
  have hz := h.below.size
  refine ⟨h.below.trans h2.below, fun k q1 q2 q3 q4 => ?_, ?_⟩
  · rw [h2.block k (by omega) q2 q3 ?_]
    · exact h.block k q1 q2 q3 q4
    · rcases h.own with e | ⟨g, e, hg⟩
      · rw [e]; exact q4
      · rw [e]
        intro e2
        have := Option.some.inj e2
        omega
  · rcases h2.own with e | ⟨g, e, hg⟩
    · rw [e]; exact h.own
    · exact .inr ⟨g, e, by omega⟩
/-- what holds of the world while an append's region goes on -/
def adC (w1 : World) (B P M : Nat) (v1 : Value) (s : ByteArray) (k : Nat) (b : Bool) (W : World) : Prop :=
  Blk W P 59 (plc s M v1) ∧ W.ownsMap Try.prog 9 (plainElem (H := Unit) Try.prog 3) M k (mapW (sl s) k) ∧ w1.grownBy W v1.ownBlock ∧ (b = false → OwnR W B 3 1 v1 (rowsZ (aheadW (sl s) k)))
/-- what an operation may turn -/
def adK (v1 : Value) (b : Bool) (W W' : World) : Prop := W.grownBy W' (match b with | true => none | false => v1.ownBlock)
/-- what the operations come to -/
def adS (w1 : World) (B P : Nat) (v1 : Value) (k : Nat) (x : Int) (rows : List (List Value)) (i : Nat) (v : Value) (W : World) : Prop :=
  match i with
  | 0 | 1 | 2 | 5 | 10 => v = .pointer (some ⟨P, 0, none⟩)
  | 3 | 11 => v = .pointer (some ⟨P, 2, none⟩)
  | 4 => v = v1
  | 6 => v = .int .i64 (k : Int)
  | 7 => v = .int .i64 x
  | 8 => ∃ y, w1.heap.size ≤ y ∧ v = .slice (some ⟨y, 0, none⟩) 1 1 ∧ Blk W y 3 [.int .i64 x]
  | 9 => OwnR W B 3 1 v (rows ++ [[.int .i64 x]]) ∧ (v.ownBlock = v1.ownBlock ∨ ∃ g, v.ownBlock = some g ∧ w1.heap.size ≤ g)
  | _ => True
theorem adS_mono {w1 : World} {B P : Nat} {v1 : Value} {k : Nat} {x : Int} {rows : List (List Value)} (hlo : ∀ b, v1.ownBlock = some b → B ≤ b ∧ b < w1.heap.size) (b : Bool) (i : Nat) (v : Value) (W W' : World) (hb : i = 9 → b = true) (h : adS w1 B P v1 k x rows i v W) (hk : adK v1 b W W') : adS w1 B P v1 k x rows i v W' := by
  match i with
  | 0 | 1 | 2 | 3 | 4 | 5 | 6 | 7 | 10 | 11 => exact h
  | 8 =>
    obtain ⟨y, h1, h2, h3⟩ := h
    refine ⟨y, h1, h2, h3.grownO hk fun i hi e => ?_⟩
    subst e
    cases b
    · have := hlo i hi
      omega
    · cases hi
  | 9 =>
    obtain rfl := hb rfl
    obtain ⟨h1, h2⟩ := h
    exact ⟨h1.grownO hk (fun _ _ e => by cases e), h2⟩
  | _ + 12 => trivial
theorem adC_new {w1 : World} {B P M : Nat} {v1 : Value} {s : ByteArray} {k : Nat} {b : Bool} {W W' : World} (h : adC w1 B P M v1 s k b W) (hb : Below W.heap.size W W') : adC w1 B P M v1 s k b W' :=
  ⟨h.1.below hb h.1.lt, h.2.1.kept (grown_below hb) (by simp), h.2.2.1.trans ((grown_below hb).but _), fun e => (h.2.2.2 e).keep hb⟩
theorem adK_new {v1 : Value} {b : Bool} {W W' : World} (hb : Below W.heap.size W W') : adK v1 b W W' := (grown_below hb).but _
theorem info_w (_ : Unit) : (Try.prog.info? 3).map (fun i => (i.zero, i.size, i.bytes)) = some (some (.int .i64 0), 1, 8) := by kernel_rfl
/-- a slice's block that an append has kept or made -/
theorem own_ge {w w' : World} {v v' : Value} (h : v'.ownBlock = v.ownBlock ∨ v'.ownBlock = some w'.heap.size) (hz : w.heap.size ≤ w'.heap.size) : v'.ownBlock = v.ownBlock ∨ ∃ g, v'.ownBlock = some g ∧ w.heap.size ≤ g := by
  rcases h with h | h
  · exact .inl h
  · exact .inr ⟨_, h, hz⟩
set_option maxRecDepth 100000 in
set_option maxHeartbeats 2000000 in
theorem p_addTo {w : World} {B P M : Nat} {v : Value} {s : ByteArray} {n : Nat} (h : PlW w B P M v s n) (q : Nat) (hn : n ≤ q) (hq : q ≤ 1000000) (hs : s.size ≤ 1000000) :
    Calls Try.prog 18 #[.pointer (some ⟨P, 0, none⟩), .int .i64 (q : Int)] w fun e w' => e = .returned (.tuple #[]) ∧ ∃ k v', PlW w' B P M v' s k ∧ k ≤ q ∧ (k = q ∨ s.size < k + 3) ∧ AddT w w' B P M v v' := by
  obtain ⟨i0, hi0, hz0, hz1, hz2⟩ := info_parts2 (info_w ())
  obtain ⟨pa, cap, hv⟩ := h.own.isSlice
  rw [rowsZ_len, aheadW_len] at hv
  have c2 := h.blk.cell 2
  simp only [plc, List.getElem?_cons_zero, List.getElem?_cons_succ] at c2
  rw [hv] at c2
  have H := Lib.hid h
  clear h hv
  go_enter Try.func18, Try.ntmps18
  go_wp2
  go_loopw [4] (fun i wr => ∃ (k : Nat) (v' : Value), i = .int .i64 (k : Int) ∧ k ≤ q ∧ PlW wr B P M v' s k ∧ AddT w wr B P M v v') (fun i _ => q - (intOf i).toNat)
  case atStart => exact ⟨n, v, rfl, hn, H.out, AddT.refl _ _ _ _ _⟩
  case round =>
    obtain ⟨k, v1, rfl, hk, gP, gA⟩ := hrel
    clear H c2 hn
    by_cases hkq : k < q
    · have d1 : (k : Int) < (q : Int) := by omega
      by_cases hmay : k + 3 ≤ s.size
      · have hM := p_mayMatch P s (.map (some M)) v1 k true wr gP.blk (by omega) (by omega) (.inl ⟨rfl, hmay⟩)
        have HM := Lib.hid hM
        have GP := Lib.hid gP
        have GA := Lib.hid gA
        clear hM gP gA
        go_wp2_with fail
        (with_reducible refine HM.out.mono ?_)
        rintro e w1 ⟨rfl, rfl⟩
        clear HM
        obtain ⟨x, hx⟩ : ∃ x, lastW (sl s) k k = x := ⟨_, rfl⟩
        have hL := fun W (h1 : Blk W P 59 (plc s M v1)) (h2 : W.ownsMap Try.prog 9 (plainElem (H := Unit) Try.prog 3) M k (mapW (sl s) k)) => p_lastOf h1 h2 k hmay (by omega)
        rw [hx] at hL
        have HL := Lib.hid hL
        have hlo := GP.out.own.lt
        have HLO := Lib.hid hlo
        have hne := GP.out.own.ne GP.out.blk (by decide)
        have HNE := Lib.hid hne
        have hnm := own_ne_map GP.out.own GP.out.map
        have HNM := Lib.hid hnm
        have hPl := GP.out.blk.lt
        have HX := Lib.hid hx
        clear hL hlo hne hnm hx
        go_wp2_with fail
        refine region_mix 9 12 (by decide) mixed (by kernel_rfl) (by kernel_rfl) (fun u => #[_, _, _, _, _, _, _, _, _, _, _, _, _, _, _, _, _, _, _, _, u 0, u 1, u 2, u 3, u 4, u 5, u 6, u 7, u 8, u 9, u 10, u 11, _, _, _, _, _, _, _, _]) [] (fun i => match i with | 0 => _ | 1 => _ | 2 => _ | 3 => _ | 4 => _ | 5 => _ | 6 => _ | 7 => _ | 8 => _ | 9 => _ | 10 => _ | 11 => _ | _ => undef) rfl
          (adC w1 B P M v1 s k) ⟨GP.out.blk, GP.out.map, (grown_below (Below.refl w1.heap.size w1).drew).but _, fun _ => GP.out.own⟩ (adK v1) (adS w1 B P v1 k x (rowsZ (aheadW (sl s) k))) ?mono ?step ?one ?last
        case mono => exact adS_mono HLO.out
        case step =>
          intro b u W i o hi hik _ ho hC hd
          have hr : adK v1 b W W := by cases b <;> exact ⟨rfl, rfl, rfl, Nat.le_refl _, fun _ _ _ => rfl⟩
          rcases i with _ | _ | _ | _ | _ | _ | _ | _ | _ | _ | _ | _ | i
          all_goals try (simp only [List.getElem?_cons_zero, List.getElem?_cons_succ, Option.some.injEq] at ho; subst ho)
          · go_wp2_with fail
            exact ⟨_, rfl, rfl, hC, hr⟩
          · go_wp2_with fail
            exact ⟨_, rfl, rfl, hC, hr⟩
          · have h1 : u 1 = .pointer (some ⟨P, 0, none⟩) := hd ⟨1, .data⟩ (by simp) rfl
            rw [h1]
            go_wp2_with fail
            exact ⟨_, by simp [upd, h1], rfl, hC, hr⟩
          · have h1 : u 2 = .pointer (some ⟨P, 0, none⟩) := hd ⟨2, .data⟩ (by simp) rfl
            rw [h1]
            go_wp2_with fail
            exact ⟨_, by simp [upd, h1], rfl, hC, hr⟩
          · have h1 : u 3 = .pointer (some ⟨P, 2, none⟩) := hd ⟨3, .data⟩ (by simp) rfl
            have c2 := hC.1.cell 2
            simp only [plc, List.getElem?_cons_zero, List.getElem?_cons_succ] at c2
            rw [h1]
            go_wp2_with fail
            exact ⟨_, by simp [upd, h1], rfl, hC, hr⟩
          · go_wp2_with fail
            exact ⟨_, rfl, rfl, hC, hr⟩
          · go_wp2_with fail
            exact ⟨_, rfl, rfl, hC, hr⟩
          · have h1 : u 5 = .pointer (some ⟨P, 0, none⟩) := hd ⟨5, .data⟩ (by simp) rfl
            have h2 : u 6 = .int .i64 (k : Int) := hd ⟨6, .data⟩ (by simp) rfl
            have hL := HL.out W hC.1 hC.2.1
            have HC := Lib.hid hC
            rw [h1, h2]
            go_wp2_with fail
            (with_reducible refine hL.mono ?_)
            rintro e w3 ⟨rfl, hd3⟩
            go_wp2_with fail
            exact ⟨_, by simp [upd, h1, h2], rfl, adC_new HC.out (DrW.below hd3), adK_new (DrW.below hd3)⟩
          · have h1 : u 7 = .int .i64 x := hd ⟨7, .data⟩ (by simp) rfl
            have hz := hC.2.2.1.size
            have hb := (Below.refl W.heap.size W).alloc (Nat.le_refl _) (.cells #[.int .i64 x] 3)
            have HC := Lib.hid (adC_new hC hb)
            have HK : Hid (adK v1 b W (W.alloc (.cells #[.int .i64 x] 3))) := Lib.hid (adK_new hb)
            clear hC hb
            rw [h1]
            go_wp2_with fail
            exact ⟨_, by simp [upd, h1], ⟨W.heap.size, hz, rfl, Blk.new' W _ _ rfl⟩, HC.out, HK.out⟩
          · omega
          · have h1 : u 0 = .pointer (some ⟨P, 0, none⟩) := hd ⟨0, .data⟩ (by simp) rfl
            rw [h1]
            go_wp2_with fail
            exact ⟨_, by simp [upd, h1], rfl, hC, hr⟩
          · have h1 : u 10 = .pointer (some ⟨P, 0, none⟩) := hd ⟨10, .data⟩ (by simp) rfl
            rw [h1]
            go_wp2_with fail
            exact ⟨_, by simp [upd, h1], rfl, hC, hr⟩
          · omega
        case one =>
          intro u W o ho hC hd
          simp only [List.getElem?_cons_zero, List.getElem?_cons_succ, Option.some.injEq] at ho
          subst ho
          have h4 : u 4 = v1 := hd ⟨4, .data⟩ (by simp) rfl
          obtain ⟨y, hy, h8, hY⟩ : ∃ y, w1.heap.size ≤ y ∧ u 8 = .slice (some ⟨y, 0, none⟩) 1 1 ∧ Blk W y 3 [.int .i64 x] := hd ⟨8, .data⟩ (by simp) rfl
          have hO := hC.2.2.2 rfl
          have hnw := sl_one hY
          have hone : ∀ r ∈ [[Value.int .i64 x]], ∀ z ∈ r, z.oneCell' = true := by simp [Value.oneCell']
          have hlen : (rowsZ (aheadW (sl s) k)).length + [[Value.int .i64 x]].length ≤ maxLen := by rw [rowsZ_len, aheadW_len, List.length_singleton]; unfold maxLen; omega
          have hby : ((rowsZ (aheadW (sl s) k)).length + [[Value.int .i64 x]].length) * 8 ≤ 140737488355328 := by rw [rowsZ_len, aheadW_len, List.length_singleton]; omega
          have hbase : B ≤ W.heap.size := by have := GP.out.hP; have := hC.1.lt; omega
          have hfin : ∀ v' w5, OwnR w5 B 3 1 v' (rowsZ (aheadW (sl s) k) ++ [[.int .i64 x]]) → W.grownBy w5 v1.ownBlock → (v'.ownBlock = v1.ownBlock ∨ v'.ownBlock = some W.heap.size) → adS w1 B P v1 k x (rowsZ (aheadW (sl s) k)) 9 v' w5 ∧ adC w1 B P M v1 s k true w5 ∧ adK v1 false W w5 := fun v' w5 q1 q2 q3 =>
            ⟨⟨q1, own_ge q3 hC.2.2.1.size⟩, ⟨hC.1.grownO q2 (HNE.out), hC.2.1.kept q2 (fun e => HNM.out M e.symm rfl), hC.2.2.1.trans q2, fun e => by cases e⟩, q2⟩
          have HFIN := Lib.hid hfin
          have HO := Lib.hid hO
          have HNW := Lib.hid hnw
          have HONE := Lib.hid hone
          have HLEN := Lib.hid hlen
          have HBY := Lib.hid hby
          have HBA := Lib.hid hbase
          clear hO hnw hone hlen hby hbase hY hC hd hfin
          rw [h4, h8]
          go_wp2_with (first | (refine wpList_append_rows rfl _ _ 57 rfl B 3 i0 (.int .i64 0) 1 8 Try.underlying57 hi0 hz0 hz1 hz2 rfl (by decide) v1 (rowsZ (aheadW (sl s) k)) rfl HO.out (.slice (some ⟨y, 0, none⟩) 1 1) [[.int .i64 x]] rfl HNW.out HONE.out HLEN.out HBY.out HBA.out (.inr ⟨_, _, _, rfl⟩) ?_; intro v' w5 ho5 hg5 hv5))
          obtain ⟨q1, q2, q3⟩ := HFIN.out v' w5 ho5 hg5 hv5
          exact ⟨v', by simp [upd, h4, h8]; rfl, q1, q2, q3⟩
        case last =>
          intro u W o ho hC hS
          simp only [List.getElem?_cons_zero, List.getElem?_cons_succ, Option.some.injEq] at ho
          subst ho
          have h11 : u 11 = .pointer (some ⟨P, 2, none⟩) := hS 11 (by decide)
          obtain ⟨h9, hv9⟩ : OwnR W B 3 1 (u 9) (rowsZ (aheadW (sl s) k) ++ [[Value.int .i64 x]]) ∧ ((u 9).ownBlock = v1.ownBlock ∨ ∃ g, (u 9).ownBlock = some g ∧ w1.heap.size ≤ g) := hS 9 (by decide)
          clear hS
          rw [h11]
          obtain ⟨v5, hv5⟩ : ∃ v5, u 9 = v5 := ⟨_, rfl⟩
          rw [hv5] at h9 hv9 ⊢
          obtain ⟨A5, cap5, he5⟩ := h9.isSlice
          obtain ⟨n5, hn5⟩ : ∃ n, (rowsZ (aheadW (sl s) k) ++ [[Value.int .i64 x]]).length = n := ⟨_, rfl⟩
          rw [hn5] at he5
          have c2 := hC.1.cell 2
          have f2 := hC.1.free 2
          simp only [plc, List.getElem?_cons_zero, List.getElem?_cons_succ] at c2
          obtain ⟨w6, hw6⟩ : ∃ w6, W.setCell ⟨P, 2, none⟩ v5 = w6 := ⟨_, rfl⟩
          have g6 : W.grownBy w6 (some P) := by rw [← hw6]; exact grown_setCell W ⟨P, 2, none⟩ v5
          have hPM := GP.out.ne
          have K6 : Blk w6 P 59 (plc s M v5) := by rw [← hw6]; exact hC.1.set 2 v5
          have M6 := hC.2.1.kept g6 (fun e => hPM (Option.some.inj e).symm)
          have O6 : OwnR w6 B 3 1 v5 (rowsZ (aheadW (sl s) k) ++ [[Value.int .i64 x]]) := by rw [← hw6]; exact h9.cellOther hC.1 (by decide) 2 v5
          have T6 : AddT w1 w6 B P M v1 v5 := by
            refine ⟨?_, fun i hi q1 q2 q3 => ?_, hv9⟩
            · rw [← hw6]
              exact ((Below.refl B w1).grown hC.2.2.1 (by have := GP.out.hP; omega) (fun i e => (HLO.out i e).1)).setCell GP.out.hP _
            · rw [g6.block i (Nat.lt_of_lt_of_le hi hC.2.2.1.size) (fun e => q1 (Option.some.inj e))]
              exact hC.2.2.1.block i hi q3
          have hbp := GP.out.hP
          have hbm := GP.out.hM
          have hF := fun m => p_first P s (.map (some M)) v5 k (w6.drewN m) (K6.drewN m) hmay (by omega)
          have hkey : keyOf Try.prog 9 (.string (tx (keyW (sl s) k))) = some (kLit (keyW (sl s) k)) := by
            rw [Go.WideMaps.keyOf_string_mk Try.underlying9 (by rw [tx_size, keyW_len (by rw [sl_len]; exact hmay)]; decide), kLit_tx (keyW_bys (sl_bys s) k)]
          have HK6 := Lib.hid K6
          have HM6 := Lib.hid M6
          have HO6 := Lib.hid O6
          have HT6 := Lib.hid T6
          have HW6 := Lib.hid hw6
          have HF := Lib.hid hF
          have HKEY := Lib.hid hkey
          clear K6 M6 O6 T6 hw6 hF hkey g6 hC h9 hv9 hn5
          subst he5
          have c1 := HK6.out.cell 1
          simp only [plc, List.getElem?_cons_zero, List.getElem?_cons_succ] at c1
          go_wp2_with fail
          rw [HW6.out]
          refine region_drew_tail 8 mixed (by kernel_rfl) ?_
          simp only [List.take_succ_cons, List.take_zero, List.drop_succ_cons, List.drop_zero]
          repeat (first | go_big_quiet_step ((go_at_call 26; exact Calls.quiet_of_same (HF.out _))) | quiet_step ((go_at_call 26; exact Calls.quiet_of_same (HF.out _))))
          refine wpQuiet_nil ?_
          rintro w7 ⟨nq, rfl⟩
          have M7 : (w6.drewN nq).ownsMap Try.prog 9 (plainElem (H := Unit) Try.prog 3) M k (mapW (sl s) k) := HM6.out
          have HM7 := Lib.hid M7
          have hkm : k < maxLen := by unfold maxLen; omega
          clear M7
          go_wp2_with (first | (at_mapUpdate; refine wpList_mapUpdate_own _ rfl _ _ _ 56 rfl 9 3 law_str Try.underlying56 _ M k _ rfl HM7.out hkm _ _ _ rfl rfl HKEY.out _ [] (plainElem_int Try.underlying3 (WalkArith.wf_i64 (by omega))) ?_; intro w8 hown8 hg8))
          go_roundw
          case rel =>
            have hP8 : PlW w8 B P M (.slice A5 n5 cap5) s (k + 1) := by
              refine ⟨(HK6.out.drewN nq).grownO hg8 (fun i e => ?_), hown8, ?_, hbp, hbm⟩
              · rw [← Option.some.inj e]; exact fun e' => hPM e'.symm
              · rw [aheadW_snoc, rowsZ_app, HX.out]
                exact (HO6.out.keep (w' := w6.drewN nq) (below_drewN (Below.refl _ _) nq)).grownO hg8 (fun i e => by
                  intro e'
                  exact own_ne_map HO6.out HM6.out i e (Option.some.inj e'))
            have hT8 : AddT w1 w8 B P M v1 (.slice A5 n5 cap5) := by
              refine HT6.out.trans ⟨(below_drewN (Below.refl B w6) nq).grown hg8 ?_ (fun i e => by rw [← Option.some.inj e]; exact hbm), fun i hi q1 q2 q3 => ?_, .inl rfl⟩
              · have := HK6.out.lt
                show B ≤ w6.heap.size
                omega
              · exact (hg8.block i hi (fun e => q2 (Option.some.inj e))).trans rfl
            exact ⟨k + 1, .slice A5 n5 cap5, by go_num, by omega, hP8, GA.out.trans hT8⟩
          case measure => (simp [intOf]; try omega)
      · have hM := p_mayMatch P s (.map (some M)) v1 k false wr gP.blk (by omega) (by omega) (.inr ⟨rfl, by omega⟩)
        have HM := Lib.hid hM
        have GP := Lib.hid gP
        have GA := Lib.hid gA
        clear hM gP gA
        go_wp2_with fail
        (with_reducible refine HM.out.mono ?_)
        rintro e w1 ⟨rfl, rfl⟩
        clear HM
        go_wp2
        go_end0
        exact ⟨rfl, k, v1, GP.out, hk, .inr (by omega), GA.out⟩
    · obtain rfl : k = q := by omega
      have GP := Lib.hid gP
      have GA := Lib.hid gA
      clear gP gA
      go_wp2
      go_end0
      exact ⟨rfl, k, v1, GP.out, hk, .inl rfl, GA.out⟩
end Go.Proofs.Ytloncdnnblkpdaa
