/- Walks of what joins tokens: a byte, a match, either of them. -/
import Derived.Test.YtpjihjbgihionaaWA
import Derived.Test.YtpjihjbgihionaaWB
namespace Go.Proofs.Ytpjihjbgihionaa
open Go.RowKit
set_option linter.unusedVariables false

/-- bytes as rows of one cell -/
def rowsBy (l : List Nat) : List (List Value) := l.map fun (n : Nat) => [.int .u8 (n : Int)]
theorem rowsBy_len (l : List Nat) : (rowsBy l).length = l.length := by simp [rowsBy]
theorem rowsBy_app (a b : List Nat) : rowsBy (a ++ b) = rowsBy a ++ rowsBy b := by simp [rowsBy]
theorem rowsBy_at {l : List Nat} {j : Nat} (h : j < l.length) : (rowsBy l)[j]? = some [.int .u8 ((l.getD j 0 : Nat) : Int)] := by simp [rowsBy, h]
theorem SlB.cell {w : World} {p : Option Addr} {n cap : Nat} {l : List Nat} (h : Sl w 1 (.slice p n cap) (rowsBy l)) {j : Nat} (hj : j < l.length) : ∃ a : Addr, p = some a ∧ w.cell? (a.add j) = some (.int .u8 ((l.getD j 0 : Nat) : Int)) := by
  obtain ⟨a, e, hc⟩ := h.row (rowsBy_at hj)
  exact ⟨a, e, by have := hc 0 _ rfl; rw [Nat.mul_one] at this; exact this⟩
/-- block J is what is joined so far: the bytes b -/
structure JW (w : World) (B J : Nat) (most : Int) (v : Value) (b : List Nat) : Prop where
  blk : Blk w J 140 [v, .int .i64 most]
  own : OwnR w B 5 1 v (rowsBy b)
  hJ : B ≤ J
theorem JW.below {w w' : World} {B J : Nat} {most : Int} {v : Value} {b : List Nat} (h : JW w B J most v b) (hb : Below w.heap.size w w') : JW w' B J most v b := ⟨h.blk.below hb h.blk.lt, h.own.keep hb, h.hJ⟩
theorem AddT.new {w w' : World} {B P M : Nat} {v : Value} (h : Below w.heap.size w w') (hB : B ≤ w.heap.size) : AddT w w' B P M v v := ⟨h.mono hB, fun k hk _ _ _ => h.block k hk, .inl rfl⟩
/-- what holds of the world while an append's region goes on -/
def jnC (w1 : World) (B J X : Nat) (most : Int) (v1 : Value) (b0 : List Nat) (t : Nat × Int × Int) (b : Bool) (W : World) : Prop :=
  Blk W J 140 [v1, .int .i64 most] ∧ Blk W X 34 (rowT t) ∧ w1.grownBy W v1.ownBlock ∧ (b = false → OwnR W B 5 1 v1 (rowsBy b0))
theorem jnC_new {w1 : World} {B J X : Nat} {most : Int} {v1 : Value} {b0 : List Nat} {t : Nat × Int × Int} {b : Bool} {W W' : World} (h : jnC w1 B J X most v1 b0 t b W) (hb : Below W.heap.size W W') : jnC w1 B J X most v1 b0 t b W' :=
  ⟨h.1.below hb h.1.lt, h.2.1.below hb h.2.1.lt, h.2.2.1.trans ((grown_below hb).but _), fun e => (h.2.2.2 e).keep hb⟩
/-- a new slice of one byte; the slice that an append has made -/
def jnNew (w1 : World) (x : Nat) (v : Value) (W : World) : Prop := ∃ y, w1.heap.size ≤ y ∧ v = .slice (some ⟨y, 0, none⟩) 1 1 ∧ Blk W y 5 [.int .u8 (x : Int)]
def jnApp (w1 : World) (B : Nat) (v1 : Value) (b0 : List Nat) (x : Nat) (v : Value) (W : World) : Prop := OwnR W B 5 1 v (rowsBy b0 ++ [[.int .u8 (x : Int)]]) ∧ (v.ownBlock = v1.ownBlock ∨ ∃ g, v.ownBlock = some g ∧ w1.heap.size ≤ g)
theorem jnNew_mono {w1 : World} {B x : Nat} {v1 v : Value} {b : Bool} {W W' : World} (hlo : ∀ b, v1.ownBlock = some b → B ≤ b ∧ b < w1.heap.size) (h : jnNew w1 x v W) (hk : adK v1 b W W') : jnNew w1 x v W' := by
  obtain ⟨y, h1, h2, h3⟩ := h
  refine ⟨y, h1, h2, h3.grownO hk fun i hi e => ?_⟩
  subst e
  cases b
  · have := hlo i hi
    omega
  · cases hi
theorem jnApp_mono {w1 : World} {B x : Nat} {v1 v : Value} {b0 : List Nat} {W W' : World} (h : jnApp w1 B v1 b0 x v W) (hk : adK v1 true W W') : jnApp w1 B v1 b0 x v W' := ⟨h.1.grownO hk (fun _ _ e => by cases e), h.2⟩
/-- what an append does to all of it -/
theorem jn_one {w1 : World} {B J X : Nat} {most : Int} {v1 : Value} {b0 : List Nat} {t : Nat × Int × Int} {W : World} (hC : jnC w1 B J X most v1 b0 t false W) (x : Nat) {v' : Value} {w5 : World} (q1 : OwnR w5 B 5 1 v' (rowsBy b0 ++ [[.int .u8 (x : Int)]])) (q2 : W.grownBy w5 v1.ownBlock) (q3 : v'.ownBlock = v1.ownBlock ∨ v'.ownBlock = some W.heap.size) :
    jnApp w1 B v1 b0 x v' w5 ∧ jnC w1 B J X most v1 b0 t true w5 ∧ adK v1 false W w5 :=
  ⟨⟨q1, own_ge q3 hC.2.2.1.size⟩, ⟨hC.1.grownO q2 ((hC.2.2.2 rfl).ne hC.1 (by decide)), hC.2.1.grownO q2 ((hC.2.2.2 rfl).ne hC.2.1 (by decide)), hC.2.2.1.trans q2, fun e => by cases e⟩, q2⟩
/-- what the store behind it does -/
theorem jn_last {w1 : World} {B J X : Nat} {most : Int} {v1 : Value} {b0 : List Nat} {t : Nat × Int × Int} {W : World} (hC : jnC w1 B J X most v1 b0 t true W) (x : Nat) {v5 : Value} (h : jnApp w1 B v1 b0 x v5 W) (hB : B ≤ J) (hJ : J < w1.heap.size) (hlo : ∀ b, v1.ownBlock = some b → B ≤ b ∧ b < w1.heap.size) (hXJ : X ≠ J) :
    JW (W.setCell ⟨J, 0, none⟩ v5) B J most v5 (b0 ++ [x]) ∧ AddT w1 (W.setCell ⟨J, 0, none⟩ v5) B J J v1 v5 ∧ Blk (W.setCell ⟨J, 0, none⟩ v5) X 34 (rowT t) := by
  have g6 : W.grownBy (W.setCell ⟨J, 0, none⟩ v5) (some J) := grown_setCell W ⟨J, 0, none⟩ v5
  refine ⟨⟨hC.1.set 0 v5, ?_, hB⟩, ⟨?_, fun i hi q1 q2 q3 => ?_, h.2⟩, hC.2.1.other (a := ⟨J, 0, none⟩) (fun e => hXJ e.symm) v5⟩
  · rw [rowsBy_app]
    exact h.1.cellOther hC.1 (by decide) 0 v5
  · exact ((Below.refl B w1).grown hC.2.2.1 (by omega) (fun i e => (hlo i e).1)).setCell hB _
  · rw [g6.block i (Nat.lt_of_lt_of_le hi hC.2.2.1.size) (fun e => q1 (Option.some.inj e))]
    exact hC.2.2.1.block i hi q3
/-- what the operations come to, where a byte is put -/
def pbS (w1 : World) (B J X : Nat) (v1 : Value) (b0 : List Nat) (c : Nat) (i : Nat) (v : Value) (W : World) : Prop :=
  match i with
  | 0 | 1 | 2 | 9 => v = .pointer (some ⟨J, 0, none⟩)
  | 3 | 10 => v = .pointer (some ⟨J, 0, none⟩)
  | 4 => v = v1
  | 5 => v = .pointer (some ⟨X, 0, none⟩)
  | 6 => v = .int .u8 (c : Int)
  | 7 => jnNew w1 c v W
  | 8 => jnApp w1 B v1 b0 c v W
  | _ => True
theorem pbS_mono {w1 : World} {B J X : Nat} {v1 : Value} {b0 : List Nat} {c : Nat} (hlo : ∀ b, v1.ownBlock = some b → B ≤ b ∧ b < w1.heap.size) (b : Bool) (i : Nat) (v : Value) (W W' : World) (hb : i = 8 → b = true) (h : pbS w1 B J X v1 b0 c i v W) (hk : adK v1 b W W') : pbS w1 B J X v1 b0 c i v W' := by
  match i with
  | 0 | 1 | 2 | 3 | 4 | 5 | 6 | 9 | 10 => exact h
  | 7 => exact jnNew_mono hlo h hk
  | 8 =>
    obtain rfl := hb rfl
    exact jnApp_mono h hk
  | _ + 11 => trivial
set_option maxRecDepth 100000 in
set_option maxHeartbeats 2000000 in
theorem j_putByte_no {w : World} (J : Nat) (c : Nat) (k : Int) (hk : k ≠ 0) :
    Calls Try.prog 97 #[.pointer (some ⟨J, 0, none⟩), .agg #[.int .u8 (c : Int), .int .i64 0, .int .i64 k]] w fun e w' => e = .returned (.int .i64 1) ∧ Below w.heap.size w w' := by
  have e0 : (k != 0) = true := by rw [bne_iff_ne]; exact hk
  clear hk
  go_enter Try.func97, Try.ntmps97
  go_wp2
  go_ret
  exact ⟨rfl, (Below.refl _ _).alloc (Nat.le_refl _) _⟩
set_option maxRecDepth 100000 in
set_option maxHeartbeats 2000000 in
theorem j_putByte {w : World} {B J : Nat} {most : Int} {v : Value} {b : List Nat} (h : JW w B J most v b) (c : Nat) (hl : b.length ≤ 1000000) :
    Calls Try.prog 97 #[.pointer (some ⟨J, 0, none⟩), .agg #[.int .u8 (c : Int), .int .i64 0, .int .i64 0]] w fun e w' => e = .returned (.int .i64 0) ∧ ∃ v', JW w' B J most v' (b ++ [c]) ∧ AddT w w' B J J v v' := by
  obtain ⟨i0, hi0, hz0, hz1, hz2⟩ := info_parts2 info_u8
  have hJl := h.blk.lt
  have hb1 := (Below.refl w.heap.size w).alloc (Nat.le_refl _) (.cells #[.int .u8 (c : Int), .int .i64 0, .int .i64 0] 34)
  have h1 := h.below hb1
  have hX := Blk.new' w 34 (c := #[.int .u8 (c : Int), .int .i64 0, .int .i64 0]) (rowT (c, 0, 0)) rfl
  have hA := AddT.new (B := B) (P := J) (M := J) (v := v) hb1 (by have := h.hJ; omega)
  obtain ⟨pa, cap, hv⟩ := h.own.isSlice
  rw [rowsBy_len] at hv
  have q2 := hX.cell 2
  simp only [rowT, List.getElem?_cons_zero, List.getElem?_cons_succ] at q2
  have HH := Lib.hid h
  have H1 := Lib.hid h1
  have HX := Lib.hid hX
  have HA := Lib.hid hA
  have HV := Lib.hid hv
  clear h h1 hX hA hv hb1
  go_enter Try.func97, Try.ntmps97
  go_wp2_with fail
  obtain ⟨w1, hw1⟩ : ∃ w1, w.alloc (.cells #[.int .u8 (c : Int), .int .i64 0, .int .i64 0] 34) = w1 := ⟨_, rfl⟩
  obtain ⟨X, hX⟩ : ∃ X, w.heap.size = X := ⟨_, rfl⟩
  rw [hw1] at H1 HX HA ⊢
  rw [hX] at HX ⊢
  have hlo := H1.out.own.lt
  have HLO := Lib.hid hlo
  have hJ1 := H1.out.blk.lt
  clear hw1 hlo q2
  refine region_mix 8 11 (by decide) mixed (by kernel_rfl) (by kernel_rfl) (fun u => #[_, _, _, _, _, _, _, _, u 0, u 1, u 2, u 3, u 4, u 5, u 6, u 7, u 8, u 9, u 10]) [] (fun i => match i with | 0 => _ | 1 => _ | 2 => _ | 3 => _ | 4 => _ | 5 => _ | 6 => _ | 7 => _ | 8 => _ | 9 => _ | 10 => _ | _ => undef) rfl
    (jnC w1 B J X most v b (c, 0, 0)) ⟨H1.out.blk, HX.out, (grown_below (Below.refl w1.heap.size w1).drew).but _, fun _ => H1.out.own⟩ (adK v) (pbS w1 B J X v b c) ?mono ?step ?one ?last
  case mono => exact pbS_mono HLO.out
  case step =>
    intro bb u W i o hi hik _ ho hC hd
    have hr : adK v bb W W := by cases bb <;> exact ⟨rfl, rfl, rfl, Nat.le_refl _, fun _ _ _ => rfl⟩
    rcases i with _ | _ | _ | _ | _ | _ | _ | _ | _ | _ | _ | i
    all_goals try (simp only [List.getElem?_cons_zero, List.getElem?_cons_succ, Option.some.injEq] at ho; subst ho)
    · go_wp2_with fail
      exact ⟨_, rfl, rfl, hC, hr⟩
    · go_wp2_with fail
      exact ⟨_, rfl, rfl, hC, hr⟩
    · have h1 : u 1 = .pointer (some ⟨J, 0, none⟩) := hd ⟨1, .data⟩ (by simp) rfl
      rw [h1]
      go_wp2_with fail
      exact ⟨_, by simp [upd, h1], rfl, hC, hr⟩
    · have h1 : u 2 = .pointer (some ⟨J, 0, none⟩) := hd ⟨2, .data⟩ (by simp) rfl
      rw [h1]
      go_wp2_with fail
      exact ⟨_, by simp [upd, h1], rfl, hC, hr⟩
    · have h1 : u 3 = .pointer (some ⟨J, 0, none⟩) := hd ⟨3, .data⟩ (by simp) rfl
      have c2 := hC.1.cell 0
      simp only [List.getElem?_cons_zero] at c2
      rw [HV.out] at c2
      rw [h1]
      go_wp2_with fail
      exact ⟨_, by simp [upd, h1], HV.out.symm, hC, hr⟩
    · go_wp2_with fail
      exact ⟨_, rfl, rfl, hC, hr⟩
    · have h1 : u 5 = .pointer (some ⟨X, 0, none⟩) := hd ⟨5, .data⟩ (by simp) rfl
      have c2 := hC.2.1.cell 0
      simp only [rowT, List.getElem?_cons_zero] at c2
      rw [h1]
      go_wp2_with fail
      exact ⟨_, by simp [upd, h1], rfl, hC, hr⟩
    · have h1 : u 6 = .int .u8 (c : Int) := hd ⟨6, .data⟩ (by simp) rfl
      have hz := hC.2.2.1.size
      have hb := (Below.refl W.heap.size W).alloc (Nat.le_refl _) (.cells #[.int .u8 (c : Int)] 5)
      have HC := Lib.hid (jnC_new hC hb)
      have HK : Hid (adK v bb W (W.alloc (.cells #[.int .u8 (c : Int)] 5))) := Lib.hid (adK_new hb)
      clear hC hb
      rw [h1]
      go_wp2_with fail
      exact ⟨_, by simp [upd, h1], ⟨W.heap.size, hz, rfl, Blk.new' W _ _ rfl⟩, HC.out, HK.out⟩
    · omega
    · have h1 : u 0 = .pointer (some ⟨J, 0, none⟩) := hd ⟨0, .data⟩ (by simp) rfl
      rw [h1]
      go_wp2_with fail
      exact ⟨_, by simp [upd, h1], rfl, hC, hr⟩
    · have h1 : u 9 = .pointer (some ⟨J, 0, none⟩) := hd ⟨9, .data⟩ (by simp) rfl
      rw [h1]
      go_wp2_with fail
      exact ⟨_, by simp [upd, h1], rfl, hC, hr⟩
    · omega
  case one =>
    intro u W o ho hC hd
    simp only [List.getElem?_cons_zero, List.getElem?_cons_succ, Option.some.injEq] at ho
    subst ho
    have h4 : u 4 = v := hd ⟨4, .data⟩ (by simp) rfl
    obtain ⟨y, hy, h8, hY⟩ : jnNew w1 c (u 7) W := hd ⟨7, .data⟩ (by simp) rfl
    have hO := hC.2.2.2 rfl
    have hnw := sl_one hY
    have hone : ∀ r ∈ [[Value.int .u8 (c : Int)]], ∀ z ∈ r, z.oneCell' = true := by simp [Value.oneCell']
    have hlen : (rowsBy b).length + [[Value.int .u8 (c : Int)]].length ≤ maxLen := by rw [rowsBy_len, List.length_singleton]; unfold maxLen; omega
    have hby : ((rowsBy b).length + [[Value.int .u8 (c : Int)]].length) * 1 ≤ 140737488355328 := by rw [rowsBy_len, List.length_singleton]; omega
    have hbase : B ≤ W.heap.size := by have := HH.out.hJ; have := hC.1.lt; omega
    have hfin := fun v' w5 => jn_one hC c (v' := v') (w5 := w5)
    have HFIN := Lib.hid hfin
    have HO := Lib.hid hO
    have HNW := Lib.hid hnw
    have HONE := Lib.hid hone
    have HLEN := Lib.hid hlen
    have HBY := Lib.hid hby
    have HBA := Lib.hid hbase
    clear hO hnw hone hlen hby hbase hY hC hd hfin
    rw [h4, h8]
    go_wp2_with (first | (refine wpList_append_rows rfl _ _ 40 rfl B 5 i0 (.int .u8 0) 1 1 Try.underlying40 hi0 hz0 hz1 hz2 rfl (by decide) v (rowsBy b) rfl HO.out (.slice (some ⟨y, 0, none⟩) 1 1) [[.int .u8 (c : Int)]] rfl HNW.out HONE.out HLEN.out HBY.out HBA.out (.inr ⟨_, _, _, rfl⟩) ?_; intro v' w5 ho5 hg5 hv5))
    obtain ⟨q1, q2, q3⟩ := HFIN.out v' w5 ho5 hg5 hv5
    exact ⟨v', by simp [upd, h4, h8]; rfl, q1, q2, q3⟩
  case last =>
    intro u W o ho hC hS
    simp only [List.getElem?_cons_zero, List.getElem?_cons_succ, Option.some.injEq] at ho
    subst ho
    have h11 : u 10 = .pointer (some ⟨J, 0, none⟩) := hS 10 (by decide)
    have h9 : jnApp w1 B v b c (u 8) W := hS 8 (by decide)
    clear hS
    rw [h11]
    obtain ⟨v5, hv5⟩ : ∃ v5, u 8 = v5 := ⟨_, rfl⟩
    rw [hv5] at h9 ⊢
    obtain ⟨A5, cap5, he5⟩ := h9.1.isSlice
    obtain ⟨n5, hn5⟩ : ∃ n, (rowsBy b ++ [[Value.int .u8 (c : Int)]]).length = n := ⟨_, rfl⟩
    rw [hn5] at he5
    have c2 := hC.1.cell 0
    have f2 := hC.1.free 0
    simp only [List.getElem?_cons_zero] at c2
    obtain ⟨l1, l2, _⟩ := jn_last hC c h9 HH.out.hJ hJ1 HLO.out (by omega)
    have L1 := Lib.hid l1
    have L2 := Lib.hid (HA.out.trans l2)
    clear l1 l2 hC h9 hn5
    subst he5
    go_wp2_with fail
    go_ret
    exact ⟨rfl, _, L1.out, L2.out⟩
theorem copyW_snoc (k : Nat) : ∀ (m : Nat) (b : List Nat), copyW k (m + 1) b = copyW k m b ++ [(copyW k m b).getD ((copyW k m b).length - k) 0]
  | 0, _ => rfl
  | m + 1, b => by
    show copyW k (m + 1) (b ++ [b.getD (b.length - k) 0]) = copyW k m (b ++ [b.getD (b.length - k) 0]) ++ _
    rw [copyW_snoc k m]
    rfl
/-- what the operations come to, where a byte of a match is put -/
def pmS (w1 : World) (B J X : Nat) (v1 : Value) (b0 : List Nat) (g y k x : Nat) (i : Nat) (v : Value) (W : World) : Prop :=
  match i with
  | 0 | 1 | 2 | 3 | 5 | 6 | 7 | 9 | 10 | 11 | 21 | 22 => v = .pointer (some ⟨J, 0, none⟩)
  | 4 | 8 | 12 => v = v1
  | 13 => v = .int .i64 (b0.length : Int)
  | 14 => v = .pointer (some ⟨X, 2, none⟩)
  | 15 => v = .int .i64 (k : Int)
  | 16 => v = .int .i64 (y : Int)
  | 17 => v = .pointer (some ⟨g, y, none⟩)
  | 18 => v = .int .u8 (x : Int)
  | 19 => jnNew w1 x v W
  | 20 => jnApp w1 B v1 b0 x v W
  | _ => True
theorem pmS_mono {w1 : World} {B J X : Nat} {v1 : Value} {b0 : List Nat} {g y k x : Nat} (hlo : ∀ b, v1.ownBlock = some b → B ≤ b ∧ b < w1.heap.size) (b : Bool) (i : Nat) (v : Value) (W W' : World) (hb : i = 20 → b = true) (h : pmS w1 B J X v1 b0 g y k x i v W) (hk : adK v1 b W W') : pmS w1 B J X v1 b0 g y k x i v W' := by
  match i with
  | 0 | 1 | 2 | 3 | 4 | 5 | 6 | 7 | 8 | 9 | 10 | 11 | 12 | 13 | 14 | 15 | 16 | 17 | 18 | 21 | 22 => exact h
  | 19 => exact jnNew_mono hlo h hk
  | 20 =>
    obtain rfl := hb rfl
    exact jnApp_mono h hk
  | _ + 23 => trivial
/-- a token that may not be a match -/
def badT (t : Nat × Int × Int) : Prop := t.1 ≠ 0 ∨ t.2.1 < 3 ∨ 34 < t.2.1 ∨ t.2.2 < 1 ∨ 512 < t.2.2
set_option maxRecDepth 100000 in
set_option maxHeartbeats 2000000 in
theorem j_putMatch_no {w : World} (J : Nat) (t : Nat × Int × Int) (h : badT t) :
    Calls Try.prog 96 #[.pointer (some ⟨J, 0, none⟩), .agg #[.int .u8 (t.1 : Int), .int .i64 t.2.1, .int .i64 t.2.2]] w fun e w' => e = .returned (.int .i64 1) ∧ Below w.heap.size w w' := by
  obtain ⟨c, n, k⟩ := t
  have hX := Blk.new' w 34 (c := #[.int .u8 (c : Int), .int .i64 n, .int .i64 k]) (rowT (c, n, k)) rfl
  have hb := (Below.refl w.heap.size w).alloc (Nat.le_refl _) (.cells #[.int .u8 (c : Int), .int .i64 n, .int .i64 k] 34)
  have HB := Lib.hid hb
  clear hb hX
  unfold badT at h
  simp only at h ⊢
  by_cases h1 : c = 0
  · have e1 : ((c : Int) != 0) = false := by rw [h1]; rfl
    have h' : n < 3 ∨ 34 < n ∨ k < 1 ∨ 512 < k := by omega
    clear h1 h
    by_cases h2 : n < 3
    · go_enter Try.func96, Try.ntmps96
      go_wp2
      go_ret
      exact ⟨rfl, HB.out⟩
    · by_cases h3 : 34 < n
      · go_enter Try.func96, Try.ntmps96
        go_wp2
        go_ret
        exact ⟨rfl, HB.out⟩
      · by_cases h4 : k < 1
        · go_enter Try.func96, Try.ntmps96
          go_wp2
          go_ret
          exact ⟨rfl, HB.out⟩
        · have h5 : 512 < k := by omega
          clear h'
          go_enter Try.func96, Try.ntmps96
          go_wp2
          go_ret
          exact ⟨rfl, HB.out⟩
  · have e1 : ((c : Int) != 0) = true := by rw [bne_iff_ne]; omega
    go_enter Try.func96, Try.ntmps96
    go_wp2
    go_ret
    exact ⟨rfl, HB.out⟩
set_option maxRecDepth 100000 in
set_option maxHeartbeats 2000000 in
theorem j_putMatch_short {w : World} {B J : Nat} {most : Int} {v : Value} {b : List Nat} (h : JW w B J most v b) (n : Int) (k : Nat) (hn : 3 ≤ n ∧ n ≤ 34) (hk : 1 ≤ k ∧ k ≤ 512) (hlt : b.length < k) :
    Calls Try.prog 96 #[.pointer (some ⟨J, 0, none⟩), .agg #[.int .u8 0, .int .i64 n, .int .i64 (k : Int)]] w fun e w' => e = .returned (.int .i64 80) ∧ Below w.heap.size w w' := by
  have hb := (Below.refl w.heap.size w).alloc (Nat.le_refl _) (.cells #[.int .u8 0, .int .i64 n, .int .i64 (k : Int)] 34)
  have hJl := h.blk.lt
  have h1 := h.below hb
  obtain ⟨pa, cap, hv⟩ := h.own.isSlice
  rw [rowsBy_len] at hv
  have c0 := h1.blk.cell 0
  simp only [List.getElem?_cons_zero] at c0
  rw [hv] at c0
  have q2 := (Blk.new' w 34 (c := #[.int .u8 0, .int .i64 n, .int .i64 (k : Int)]) (rowT (0, n, (k : Int))) rfl).cell 2
  simp only [rowT, List.getElem?_cons_zero, List.getElem?_cons_succ] at q2
  have HB := Lib.hid hb
  have i1 : ¬ n < 3 := by omega
  have i2 : ¬ (34 : Int) < n := by omega
  have i3 : ¬ (k : Int) < 1 := by omega
  have i4 : ¬ (512 : Int) < (k : Int) := by omega
  have d1 : decide ((b.length : Int) < (k : Int)) = true := by simp; omega
  have d2 : decide (b.length < k) = true := by simp; omega
  clear h h1 hb hv hn hk hlt
  go_enter Try.func96, Try.ntmps96
  go_wp2_with fail
  generalize World.alloc w _ = w1 at *
  go_quiet (fail)
  go_wp2
  go_ret
  exact ⟨rfl, below_drewN HB.out _⟩
set_option maxRecDepth 100000 in
set_option maxHeartbeats 4000000 in
theorem j_putMatch {w : World} {B J : Nat} {most : Int} {v : Value} {b : List Nat} (h : JW w B J most v b) (n k : Nat) (hn : 3 ≤ n ∧ n ≤ 34) (hk : 1 ≤ k ∧ k ≤ 512) (hle : k ≤ b.length) (hl : b.length ≤ 1000000) :
    Calls Try.prog 96 #[.pointer (some ⟨J, 0, none⟩), .agg #[.int .u8 0, .int .i64 (n : Int), .int .i64 (k : Int)]] w fun e w' => e = .returned (.int .i64 0) ∧ ∃ v', JW w' B J most v' (copyW k n b) ∧ AddT w w' B J J v v' := by
  obtain ⟨i0, hi0, hz0, hz1, hz2⟩ := info_parts2 info_u8
  have hb := (Below.refl w.heap.size w).alloc (Nat.le_refl _) (.cells #[.int .u8 0, .int .i64 (n : Int), .int .i64 (k : Int)] 34)
  have hJl := h.blk.lt
  have h1 := h.below hb
  have hA := AddT.new (B := B) (P := J) (M := J) (v := v) hb (by have := h.hJ; omega)
  obtain ⟨pa, cap, hv⟩ := h.own.isSlice
  rw [rowsBy_len] at hv
  have c0 := h1.blk.cell 0
  simp only [List.getElem?_cons_zero] at c0
  rw [hv] at c0
  have hX := Blk.new' w 34 (c := #[.int .u8 0, .int .i64 (n : Int), .int .i64 (k : Int)]) (rowT (0, (n : Int), (k : Int))) rfl
  have q1 := hX.cell 1
  have q2 := hX.cell 2
  simp only [rowT, List.getElem?_cons_zero, List.getElem?_cons_succ] at q1 q2
  have H1 := Lib.hid h1
  have HX := Lib.hid hX
  have HA := Lib.hid hA
  have i1 : ¬ (n : Int) < 3 := by omega
  have i2 : ¬ (34 : Int) < (n : Int) := by omega
  have i3 : ¬ (k : Int) < 1 := by omega
  have i4 : ¬ (512 : Int) < (k : Int) := by omega
  have d1 : decide ((b.length : Int) < (k : Int)) = false := by simp; omega
  have d2 : decide (b.length < k) = false := by simp; omega
  have hJX : w.heap.size ≠ J := by omega
  clear h h1 hX hA hb hv
  go_enter Try.func96, Try.ntmps96
  go_wp2_with fail
  obtain ⟨w1, hw1⟩ : ∃ w1, w.alloc (.cells #[.int .u8 0, .int .i64 (n : Int), .int .i64 (k : Int)] 34) = w1 := ⟨_, rfl⟩
  obtain ⟨X, hXX⟩ : ∃ X, w.heap.size = X := ⟨_, rfl⟩
  rw [hw1] at H1 HX HA c0 q1 q2 ⊢
  rw [hXX] at HX q1 q2 hJX ⊢
  clear hw1 hXX hJl
  go_quiet (fail)
  go_wp2
  have HS := Lib.hid (show JW (w1.drewN nq) B J most v (copyW k 0 b) from H1.out.below (below_drewN (Below.refl _ _) nq))
  have HA2 := Lib.hid (show AddT w (w1.drewN nq) B J J v v from HA.out.trans (AddT.new (below_drewN (Below.refl _ _) nq) (by have := H1.out.hJ; have := H1.out.blk.lt; omega)))
  have HX2 := Lib.hid (HX.out.drewN nq)
  clear H1 HA HX c0 q1 q2 d1 d2
  go_loopw [38] (fun i wr => ∃ (m : Nat) (v1 : Value), m ≤ n ∧ i = .int .i64 (m : Int) ∧ JW wr B J most v1 (copyW k m b) ∧ AddT w wr B J J v v1 ∧ Blk wr X 34 (rowT (0, (n : Int), (k : Int)))) (fun i _ => n - (intOf i).toNat)
  case atStart => exact ⟨0, v, by omega, rfl, HS.out, HA2.out, HX2.out⟩
  case round =>
    obtain ⟨m, v1, hm, rfl, gJ, gA, gX⟩ := hrel
    clear HS HA2 HX2
    by_cases hmn : m < n
    · have d1 : (m : Int) < (n : Int) := by omega
      have hlen := copyW_len k m b
      have hsn := copyW_snoc k m b
      obtain ⟨b1, hb1⟩ : ∃ b1, copyW k m b = b1 := ⟨_, rfl⟩
      rw [hb1] at gJ hlen hsn
      obtain ⟨y, hy⟩ : ∃ y, b1.length - k = y := ⟨_, rfl⟩
      obtain ⟨x, hx⟩ : ∃ x, b1.getD y 0 = x := ⟨_, rfl⟩
      rw [hy, hx] at hsn
      have hyl : y + k = b1.length := by omega
      have hb1l : b1.length ≤ 1000034 := by omega
      have HYL := Lib.hid hyl
      have hyb : y < b1.length := by omega
      clear hlen
      obtain ⟨g, capg, restg, hv, hgB, hG⟩ := gJ.own.blkR (by rw [rowsBy_len]; omega)
      clear hyl
      rw [rowsBy_len] at hv
      have hlo := gJ.own.lt
      have hJ1 := gJ.blk.lt
      have HLO := Lib.hid hlo
      have HV := Lib.hid hv
      have HX0 := Lib.hid hx
      have HSN := Lib.hid hsn
      have GJ := Lib.hid gJ
      have GA := Lib.hid gA
      have GX := Lib.hid gX
      clear hlo hv hx hsn gJ gA gX hb1 hG hy
      go_wp2_with fail
      refine region_mix 20 23 (by decide) mixed (by kernel_rfl) (by kernel_rfl) (fun u => #[_, _, _, _, _, _, _, _, _, _, _, _, _, _, _, _, _, _, _, _, _, _, _, _, _, _, _, _, _, _, _, _, _, _, _, _, _, _, _, _, u 0, u 1, u 2, u 3, u 4, u 5, u 6, u 7, u 8, u 9, u 10, u 11, u 12, u 13, u 14, u 15, u 16, u 17, u 18, u 19, u 20, u 21, u 22, _]) [] (fun i => match i with | 0 => _ | 1 => _ | 2 => _ | 3 => _ | 4 => _ | 5 => _ | 6 => _ | 7 => _ | 8 => _ | 9 => _ | 10 => _ | 11 => _ | 12 => _ | 13 => _ | 14 => _ | 15 => _ | 16 => _ | 17 => _ | 18 => _ | 19 => _ | 20 => _ | 21 => _ | 22 => _ | _ => undef) rfl
        (jnC wr B J X most v1 b1 (0, (n : Int), (k : Int))) ⟨GJ.out.blk, GX.out, (grown_below (Below.refl wr.heap.size wr).drew).but _, fun _ => GJ.out.own⟩ (adK v1) (pmS wr B J X v1 b1 g y k x) ?mono ?step ?one ?last
      case mono => exact pmS_mono HLO.out
      case step =>
        intro bb u W i o hi hik hnd ho hC hd
        have hr : adK v1 bb W W := by cases bb <;> exact ⟨rfl, rfl, rfl, Nat.le_refl _, fun _ _ _ => rfl⟩
        rcases i with _ | _ | _ | _ | _ | _ | _ | _ | _ | _ | _ | _ | _ | _ | _ | _ | _ | _ | _ | _ | _ | _ | _ | i
        all_goals try (simp only [List.getElem?_cons_zero, List.getElem?_cons_succ, Option.some.injEq] at ho; subst ho)
        · go_wp2_with fail
          exact ⟨_, rfl, rfl, hC, hr⟩
        · go_wp2_with fail
          exact ⟨_, rfl, rfl, hC, hr⟩
        · have h1 : u 1 = .pointer (some ⟨J, 0, none⟩) := hd ⟨1, .data⟩ (by simp) rfl
          rw [h1]
          go_wp2_with fail
          exact ⟨_, by simp [upd, h1], rfl, hC, hr⟩
        · have h1 : u 2 = .pointer (some ⟨J, 0, none⟩) := hd ⟨2, .data⟩ (by simp) rfl
          rw [h1]
          go_wp2_with fail
          exact ⟨_, by simp [upd, h1], rfl, hC, hr⟩
        · have h1 : u 3 = .pointer (some ⟨J, 0, none⟩) := hd ⟨3, .data⟩ (by simp) rfl
          have c2 := hC.1.cell 0
          simp only [List.getElem?_cons_zero] at c2
          rw [HV.out] at c2
          rw [h1]
          go_wp2_with fail
          exact ⟨_, by simp [upd, h1], HV.out.symm, hC, hr⟩
        · go_wp2_with fail
          exact ⟨_, rfl, rfl, hC, hr⟩
        · have h1 : u 5 = .pointer (some ⟨J, 0, none⟩) := hd ⟨5, .data⟩ (by simp) rfl
          rw [h1]
          go_wp2_with fail
          exact ⟨_, by simp [upd, h1], rfl, hC, hr⟩
        · have h1 : u 6 = .pointer (some ⟨J, 0, none⟩) := hd ⟨6, .data⟩ (by simp) rfl
          rw [h1]
          go_wp2_with fail
          exact ⟨_, by simp [upd, h1], rfl, hC, hr⟩
        · have h1 : u 7 = .pointer (some ⟨J, 0, none⟩) := hd ⟨7, .data⟩ (by simp) rfl
          have c2 := hC.1.cell 0
          simp only [List.getElem?_cons_zero] at c2
          rw [HV.out] at c2
          rw [h1]
          go_wp2_with fail
          exact ⟨_, by simp [upd, h1], HV.out.symm, hC, hr⟩
        · go_wp2_with fail
          exact ⟨_, rfl, rfl, hC, hr⟩
        · have h1 : u 9 = .pointer (some ⟨J, 0, none⟩) := hd ⟨9, .data⟩ (by simp) rfl
          rw [h1]
          go_wp2_with fail
          exact ⟨_, by simp [upd, h1], rfl, hC, hr⟩
        · have h1 : u 10 = .pointer (some ⟨J, 0, none⟩) := hd ⟨10, .data⟩ (by simp) rfl
          rw [h1]
          go_wp2_with fail
          exact ⟨_, by simp [upd, h1], rfl, hC, hr⟩
        · have h1 : u 11 = .pointer (some ⟨J, 0, none⟩) := hd ⟨11, .data⟩ (by simp) rfl
          have c2 := hC.1.cell 0
          simp only [List.getElem?_cons_zero] at c2
          rw [HV.out] at c2
          rw [h1]
          go_wp2_with fail
          exact ⟨_, by simp [upd, h1], HV.out.symm, hC, hr⟩
        · have h1 := Eq.trans (show u 12 = v1 from hd ⟨12, .data⟩ (by simp) rfl) HV.out
          rw [h1]
          go_wp2_with fail
          exact ⟨_, by simp [upd, h1], rfl, hC, hr⟩
        · go_wp2_with fail
          exact ⟨_, rfl, rfl, hC, hr⟩
        · have h1 : u 14 = .pointer (some ⟨X, 2, none⟩) := hd ⟨14, .data⟩ (by simp) rfl
          have c2 := hC.2.1.cell 2
          simp only [rowT, List.getElem?_cons_zero, List.getElem?_cons_succ] at c2
          rw [h1]
          go_wp2_with fail
          exact ⟨_, by simp [upd, h1], rfl, hC, hr⟩
        · have h1 : u 13 = .int .i64 (b1.length : Int) := hd ⟨13, .data⟩ (by simp) rfl
          have h2 : u 15 = .int .i64 (k : Int) := hd ⟨15, .data⟩ (by simp) rfl
          have e1 : IntKind.i64.wrap ((b1.length : Int) - (k : Int)) = (y : Int) := by have := HYL.out; rw [IntWalk.i64_in _ (by omega)]; omega
          have e2 : (b1.length : Int) - (k : Int) = (y : Int) := by have := HYL.out; omega
          have E2 := Lib.hid e2
          clear e2
          rw [h1, h2]
          go_wp2_with fail
          exact ⟨.int .i64 (y : Int), by simp [upd, h1, h2], rfl, hC, hr⟩
        · have h1 := Eq.trans (show u 8 = v1 from hd ⟨8, .data⟩ (by simp) rfl) HV.out
          have h2 : u 16 = .int .i64 (y : Int) := hd ⟨16, .data⟩ (by simp) rfl
          have d1 : (y : Int) < (b1.length : Int) := by omega
          rw [h1, h2]
          go_wp2_with fail
          exact ⟨_, by simp [upd, h1, h2], rfl, hC, hr⟩
        · have h1 : u 17 = .pointer (some ⟨g, y, none⟩) := hd ⟨17, .data⟩ (by simp) rfl
          cases bb
          · have hO := (hC.2.2.2 rfl).sl
            rw [HV.out] at hO
            obtain ⟨a, ea, hc⟩ := SlB.cell hO (j := y) (by omega)
            cases ea
            rw [Addr.add_mid, Nat.zero_add, HX0.out] at hc
            clear hO
            rw [h1]
            go_wp2_with fail
            exact ⟨_, by simp [upd, h1], rfl, hC, hr⟩
          · exact Bool.noConfusion (Eq.trans (a := true) (by kernel_rfl) (hnd rfl))
        · have h1 : u 18 = .int .u8 (x : Int) := hd ⟨18, .data⟩ (by simp) rfl
          have hz := hC.2.2.1.size
          have hb := (Below.refl W.heap.size W).alloc (Nat.le_refl _) (.cells #[.int .u8 (x : Int)] 5)
          have HC := Lib.hid (jnC_new hC hb)
          have HK : Hid (adK v1 bb W (W.alloc (.cells #[.int .u8 (x : Int)] 5))) := Lib.hid (adK_new hb)
          clear hC hb
          rw [h1]
          go_wp2_with fail
          exact ⟨_, by simp [upd, h1], ⟨W.heap.size, hz, rfl, Blk.new' W _ _ rfl⟩, HC.out, HK.out⟩
        · omega
        · have h1 : u 0 = .pointer (some ⟨J, 0, none⟩) := hd ⟨0, .data⟩ (by simp) rfl
          rw [h1]
          go_wp2_with fail
          exact ⟨_, by simp [upd, h1], rfl, hC, hr⟩
        · have h1 : u 21 = .pointer (some ⟨J, 0, none⟩) := hd ⟨21, .data⟩ (by simp) rfl
          rw [h1]
          go_wp2_with fail
          exact ⟨_, by simp [upd, h1], rfl, hC, hr⟩
        · omega
      case one =>
        intro u W o ho hC hd
        simp only [List.getElem?_cons_zero, List.getElem?_cons_succ, Option.some.injEq] at ho
        subst ho
        have h4 : u 4 = v1 := hd ⟨4, .data⟩ (by simp) rfl
        obtain ⟨z, hz, h8, hY⟩ : jnNew wr x (u 19) W := hd ⟨19, .data⟩ (by simp) rfl
        have hO := hC.2.2.2 rfl
        have hnw := sl_one hY
        have hone : ∀ r ∈ [[Value.int .u8 (x : Int)]], ∀ z ∈ r, z.oneCell' = true := by simp [Value.oneCell']
        have hlen' : (rowsBy b1).length + [[Value.int .u8 (x : Int)]].length ≤ maxLen := by rw [rowsBy_len, List.length_singleton]; unfold maxLen; omega
        have hby : ((rowsBy b1).length + [[Value.int .u8 (x : Int)]].length) * 1 ≤ 140737488355328 := by rw [rowsBy_len, List.length_singleton]; omega
        have hbase : B ≤ W.heap.size := by have := GJ.out.hJ; have := hC.1.lt; omega
        have hfin := fun v' w5 => jn_one hC x (v' := v') (w5 := w5)
        have HFIN := Lib.hid hfin
        have HO := Lib.hid hO
        have HNW := Lib.hid hnw
        have HONE := Lib.hid hone
        have HLEN := Lib.hid hlen'
        have HBY := Lib.hid hby
        have HBA := Lib.hid hbase
        clear hO hnw hone hlen' hby hbase hY hC hd hfin
        rw [h4, h8]
        go_wp2_with (first | (refine wpList_append_rows rfl _ _ 40 rfl B 5 i0 (.int .u8 0) 1 1 Try.underlying40 hi0 hz0 hz1 hz2 rfl (by decide) v1 (rowsBy b1) rfl HO.out (.slice (some ⟨z, 0, none⟩) 1 1) [[.int .u8 (x : Int)]] rfl HNW.out HONE.out HLEN.out HBY.out HBA.out (.inr ⟨_, _, _, rfl⟩) ?_; intro v' w5 ho5 hg5 hv5))
        obtain ⟨q1, q2, q3⟩ := HFIN.out v' w5 ho5 hg5 hv5
        exact ⟨v', by simp [upd, h4, h8]; rfl, q1, q2, q3⟩
      case last =>
        intro u W o ho hC hS
        simp only [List.getElem?_cons_zero, List.getElem?_cons_succ, Option.some.injEq] at ho
        subst ho
        have h11 : u 22 = .pointer (some ⟨J, 0, none⟩) := hS 22 (by decide)
        have h9 : jnApp wr B v1 b1 x (u 20) W := hS 20 (by decide)
        clear hS
        rw [h11]
        obtain ⟨v5, hv5⟩ : ∃ v5, u 20 = v5 := ⟨_, rfl⟩
        rw [hv5] at h9 ⊢
        obtain ⟨A5, cap5, he5⟩ := h9.1.isSlice
        obtain ⟨n5, hn5⟩ : ∃ n, (rowsBy b1 ++ [[Value.int .u8 (x : Int)]]).length = n := ⟨_, rfl⟩
        rw [hn5] at he5
        have c2 := hC.1.cell 0
        have f2 := hC.1.free 0
        simp only [List.getElem?_cons_zero] at c2
        obtain ⟨l1, l2, l3⟩ := jn_last hC x h9 GJ.out.hJ hJ1 HLO.out hJX
        rw [← HSN.out] at l1
        have L1 := Lib.hid l1
        have L2 := Lib.hid (GA.out.trans l2)
        have L3 := Lib.hid l3
        clear l1 l2 l3 hC h9 hn5
        subst he5
        go_wp2_with fail
        go_roundw
        case rel => exact ⟨m + 1, _, by omega, by go_num, L1.out, L2.out, L3.out⟩
        case measure => (simp [intOf]; try omega)
    · obtain rfl : m = n := by omega
      have GJ := Lib.hid gJ
      have GA := Lib.hid gA
      clear gJ gA gX
      go_wp2
      go_ret
      exact ⟨rfl, _, GJ.out, GA.out⟩
end Go.Proofs.Ytpjihjbgihionaa
namespace Go.Proofs.Ytpjihjbgihionaa
open Go.RowKit
set_option linter.unusedVariables false

theorem rowT_arr0 (n b : Int) : (rowT (0, n, b)).toArray = #[.int .u8 0, .int .i64 n, .int .i64 b] := rfl
/-- what a token does: the error, and the bytes -/
def stepW (most : Int) (t : Nat × Int × Int) (b : List Nat) : Nat × List Nat :=
  if t.2.1 = 0 then (if t.2.2 ≠ 0 then (1, b) else if most < ((b.length + 1 : Nat) : Int) then (90, b ++ [t.1]) else (0, b ++ [t.1]))
  else if t.2.1 < 3 ∨ 34 < t.2.1 ∨ t.2.2 < 1 ∨ 512 < t.2.2 ∨ t.1 ≠ 0 then (1, b)
  else if (b.length : Int) < t.2.2 then (80, b)
  else if most < ((b.length + t.2.1.toNat : Nat) : Int) then (90, copyW t.2.2.toNat t.2.1.toNat b)
  else (0, copyW t.2.2.toNat t.2.1.toNat b)
theorem join_cons (most : Int) (t : Nat × Int × Int) (l : List (Nat × Int × Int)) (b : List Nat) : joinW most (t :: l) b = if (stepW most t b).1 = 0 then joinW most l (stepW most t b).2 else ([], (stepW most t b).1) := by
  obtain ⟨c, n, k⟩ := t
  unfold stepW
  rw [joinW]
  simp only
  split
  · split
    · rfl
    · split
      · rfl
      · rfl
  · split
    · rfl
    · split
      · rfl
      · split
        · rfl
        · rfl
theorem step_len (most : Int) (t : Nat × Int × Int) (b : List Nat) : (stepW most t b).2.length ≤ b.length + 34 := by
  obtain ⟨c, n, k⟩ := t
  unfold stepW
  simp only
  split
  · split
    · show b.length ≤ _; omega
    · split <;> (show (b ++ [c]).length ≤ _; rw [List.length_append, List.length_singleton]; omega)
  · split
    · show b.length ≤ _; omega
    · rename_i h
      have h34 : n ≤ 34 := by omega
      split
      · show b.length ≤ _; omega
      · split <;> (show (copyW _ _ b).length ≤ _; rw [copyW_len]; omega)
/-- what put hands back -/
def PutRet (w : World) (B J : Nat) (most : Int) (v : Value) (er : Nat) (b' : List Nat) (e : Ending) (w' : World) : Prop := e = .returned (.int .i64 (er : Int)) ∧ (er = 0 → ∃ v', JW w' B J most v' b') ∧ Below B w w'
set_option maxRecDepth 100000 in
set_option maxHeartbeats 2000000 in
theorem j_put {w : World} {B J : Nat} {most : Int} {v : Value} {b : List Nat} (h : JW w B J most v b) (t : Nat × Int × Int) (hl : b.length ≤ 900000) (er : Nat) (b' : List Nat) (hst : stepW most t b = (er, b')) :
    Calls Try.prog 89 #[.pointer (some ⟨J, 0, none⟩), .agg #[.int .u8 (t.1 : Int), .int .i64 t.2.1, .int .i64 t.2.2]] w (PutRet w B J most v er b') := by
  obtain ⟨c, n, k⟩ := t
  simp only
  have hJl := h.blk.lt
  have hBw : B ≤ w.heap.size := by have := h.hJ; omega
  have hX := Blk.new' w 34 (c := #[.int .u8 (c : Int), .int .i64 n, .int .i64 k]) (rowT (c, n, k)) rfl
  have hb1 := (Below.refl w.heap.size w).alloc (Nat.le_refl _) (.cells #[.int .u8 (c : Int), .int .i64 n, .int .i64 k] 34)
  have h1 := h.below hb1
  have q1 := hX.cell 1
  simp only [rowT, List.getElem?_cons_zero, List.getElem?_cons_succ] at q1
  have hmf := mkf
  obtain ⟨w1, hw1⟩ : ∃ w1, w.alloc (.cells #[.int .u8 (c : Int), .int .i64 n, .int .i64 k] 34) = w1 := ⟨_, rfl⟩
  rw [hw1] at hX hb1 h1 q1
  have HW1 := Lib.hid hw1
  have HX := Lib.hid hX
  have HB1 := Lib.hid (hb1.mono hBw)
  have H1 := Lib.hid h1
  have HST := Lib.hid hst
  clear hX hw1 hb1 h1 h hst
  by_cases hn : n = 0
  · subst hn
    by_cases hk : k = 0
    · subst hk
      have hP := j_putByte H1.out c (by omega)
      have HP := Lib.hid hP
      clear hP
      by_cases hmost : most < ((b.length + 1 : Nat) : Int)
      · have hst := HST.out
        rw [show stepW most (c, 0, 0) b = (if most < ((b.length + 1 : Nat) : Int) then (90, b ++ [c]) else (0, b ++ [c])) from rfl, if_pos hmost] at hst
        cases hst
        have D1 := Lib.hid (decide_eq_true hmost)
        clear hmost
        go_enter Try.func89, Try.ntmps89
        go_wp2_with (first | (rw [HW1.out]; refine wpList_load_blk rfl 34 _ rfl w.heap.size rfl HX.out Try.underlying34 rfl size_tk ?_; first | rw [rowT_arr0] | rw [rowT_arr]))
        (with_reducible refine HP.out.mono ?_)
        rintro e w2 ⟨rfl, v2, hJ2, hA2⟩
        obtain ⟨pa, cap, hv⟩ := hJ2.own.isSlice
        rw [rowsBy_len, List.length_append, List.length_singleton] at hv
        have c0 := hJ2.blk.cell 0
        have c1 := hJ2.blk.cell 1
        simp only [List.getElem?_cons_zero, List.getElem?_cons_succ] at c0 c1
        rw [hv] at c0
        have d1 := D1.out
        have HB2 := Lib.hid (HB1.out.trans hA2.below)
        clear hJ2 hA2 hv
        obtain ⟨N, hN⟩ : ∃ N, b.length + 1 = N := ⟨_, rfl⟩
        rw [hN] at c0 d1
        clear hN
        go_wp2_with fail
        go_quiet (fail)
        go_wp2
        go_ret
        exact ⟨rfl, (fun h => by cases h), below_drewN HB2.out _⟩
      · have hst := HST.out
        rw [show stepW most (c, 0, 0) b = (if most < ((b.length + 1 : Nat) : Int) then (90, b ++ [c]) else (0, b ++ [c])) from rfl, if_neg hmost] at hst
        cases hst
        have D1 := Lib.hid (decide_eq_false hmost)
        clear hmost
        go_enter Try.func89, Try.ntmps89
        go_wp2_with (first | (rw [HW1.out]; refine wpList_load_blk rfl 34 _ rfl w.heap.size rfl HX.out Try.underlying34 rfl size_tk ?_; first | rw [rowT_arr0] | rw [rowT_arr]))
        (with_reducible refine HP.out.mono ?_)
        rintro e w2 ⟨rfl, v2, hJ2, hA2⟩
        obtain ⟨pa, cap, hv⟩ := hJ2.own.isSlice
        rw [rowsBy_len, List.length_append, List.length_singleton] at hv
        have c0 := hJ2.blk.cell 0
        have c1 := hJ2.blk.cell 1
        simp only [List.getElem?_cons_zero, List.getElem?_cons_succ] at c0 c1
        rw [hv] at c0
        have d1 := D1.out
        have HB2 := Lib.hid (HB1.out.trans hA2.below)
        have HJ2 := Lib.hid hJ2
        clear hJ2 hA2 hv
        obtain ⟨N, hN⟩ : ∃ N, b.length + 1 = N := ⟨_, rfl⟩
        rw [hN] at c0 d1
        clear hN
        go_wp2_with fail
        go_quiet (fail)
        go_wp2
        go_ret
        exact ⟨rfl, (fun _ => ⟨_, HJ2.out.below (below_drewN (Below.refl _ _) _)⟩), below_drewN HB2.out _⟩
    · have hst := HST.out
      rw [show stepW most (c, 0, k) b = (1, b) by unfold stepW; rw [if_pos rfl, if_pos hk]] at hst
      cases hst
      have hP := j_putByte_no (w := w1) J c k hk
      have HP := Lib.hid hP
      clear hP
      go_enter Try.func89, Try.ntmps89
      go_wp2_with (first | (rw [HW1.out]; refine wpList_load_blk rfl 34 _ rfl w.heap.size rfl HX.out Try.underlying34 rfl size_tk ?_; first | rw [rowT_arr0] | rw [rowT_arr]))
      (with_reducible refine HP.out.mono ?_)
      rintro e w2 ⟨rfl, hb2⟩
      have HB2 := Lib.hid (HB1.out.trans (hb2.mono HB1.out.size |>.mono (by first | exact Nat.le_refl _ | exact Nat.le_trans hBw HB1.out.size | omega)))
      clear hb2
      go_wp2
      go_ret
      exact ⟨rfl, (fun h => by cases h), HB2.out⟩
  · have e0 : (n == 0) = false := by rw [beq_eq_false_iff_ne]; exact hn
    by_cases hbad : n < 3 ∨ 34 < n ∨ k < 1 ∨ 512 < k ∨ c ≠ 0
    · have hst := HST.out
      rw [show stepW most (c, n, k) b = (1, b) by unfold stepW; rw [if_neg hn, if_pos hbad]] at hst
      cases hst
      have hP := j_putMatch_no (w := w1) J (c, n, k) (by unfold badT; simp only; omega)
      have HP := Lib.hid hP
      clear hP hbad hn
      go_enter Try.func89, Try.ntmps89
      go_wp2_with (first | (rw [HW1.out]; refine wpList_load_blk rfl 34 _ rfl w.heap.size rfl HX.out Try.underlying34 rfl size_tk ?_; first | rw [rowT_arr0] | rw [rowT_arr]))
      (with_reducible refine HP.out.mono ?_)
      rintro e w2 ⟨rfl, hb2⟩
      have HB2 := Lib.hid (HB1.out.trans (hb2.mono HB1.out.size |>.mono (by first | exact Nat.le_refl _ | exact Nat.le_trans hBw HB1.out.size | omega)))
      clear hb2
      go_wp2
      go_ret
      exact ⟨rfl, (fun h => by cases h), HB2.out⟩
    · obtain ⟨m, rfl⟩ : ∃ m : Nat, n = (m : Int) := ⟨n.toNat, by omega⟩
      obtain ⟨q, rfl⟩ : ∃ q : Nat, k = (q : Int) := ⟨k.toNat, by omega⟩
      obtain rfl : c = 0 := by omega
      have HW1 : Hid (w.alloc (.cells #[.int .u8 0, .int .i64 (m : Int), .int .i64 (q : Int)] 34) = w1) := HW1
      by_cases hs : b.length < q
      · have hst := HST.out
        rw [show stepW most (0, (m : Int), (q : Int)) b = (80, b) by unfold stepW; rw [if_neg hn, if_neg hbad, if_pos (show (b.length : Int) < (q : Int) by omega)]] at hst
        cases hst
        have hP := j_putMatch_short H1.out (m : Int) q (by omega) (by omega) hs
        have HP := Lib.hid hP
        clear hP hbad hn hs
        go_enter Try.func89, Try.ntmps89
        go_wp2_with (first | (rw [HW1.out]; refine wpList_load_blk rfl 34 _ rfl w.heap.size rfl HX.out Try.underlying34 rfl size_tk ?_; first | rw [rowT_arr0] | rw [rowT_arr]))
        (with_reducible refine HP.out.mono ?_)
        rintro e w2 ⟨rfl, hb2⟩
        have HB2 := Lib.hid (HB1.out.trans (hb2.mono HB1.out.size |>.mono (by first | exact Nat.le_refl _ | exact Nat.le_trans hBw HB1.out.size | omega)))
        clear hb2
        go_wp2
        go_ret
        exact ⟨rfl, (fun h => by cases h), HB2.out⟩
      · have hsw : stepW most (0, (m : Int), (q : Int)) b = (if most < ((b.length + m : Nat) : Int) then (90, copyW q m b) else (0, copyW q m b)) := by
          unfold stepW
          rw [if_neg hn, if_neg hbad, if_neg (show ¬ (b.length : Int) < (q : Int) by omega)]
          simp only [Int.toNat_natCast]
        have hP := j_putMatch H1.out m q (by omega) (by omega) (by omega) (by omega)
        have HP := Lib.hid hP
        clear hP
        by_cases hmost : most < ((b.length + m : Nat) : Int)
        · have hst := HST.out
          rw [hsw, if_pos hmost] at hst
          cases hst
          clear hsw hbad hn hs
          have D1 := Lib.hid (decide_eq_true hmost)
          clear hmost
          go_enter Try.func89, Try.ntmps89
          go_wp2_with (first | (rw [HW1.out]; refine wpList_load_blk rfl 34 _ rfl w.heap.size rfl HX.out Try.underlying34 rfl size_tk ?_; first | rw [rowT_arr0] | rw [rowT_arr]))
          (with_reducible refine HP.out.mono ?_)
          rintro e w2 ⟨rfl, v2, hJ2, hA2⟩
          obtain ⟨pa, cap, hv⟩ := hJ2.own.isSlice
          rw [rowsBy_len, copyW_len] at hv
          have c0 := hJ2.blk.cell 0
          have c1 := hJ2.blk.cell 1
          simp only [List.getElem?_cons_zero, List.getElem?_cons_succ] at c0 c1
          rw [hv] at c0
          have d1 := D1.out
          have HB2 := Lib.hid (HB1.out.trans hA2.below)
          clear hJ2 hA2 hv
          obtain ⟨N, hN⟩ : ∃ N, b.length + m = N := ⟨_, rfl⟩
          rw [hN] at c0 d1
          clear hN
          go_wp2_with fail
          go_quiet (fail)
          go_wp2
          go_ret
          exact ⟨rfl, (fun h => by cases h), below_drewN HB2.out _⟩
        · have hst := HST.out
          rw [hsw, if_neg hmost] at hst
          cases hst
          clear hsw hbad hn hs
          have D1 := Lib.hid (decide_eq_false hmost)
          clear hmost
          go_enter Try.func89, Try.ntmps89
          go_wp2_with (first | (rw [HW1.out]; refine wpList_load_blk rfl 34 _ rfl w.heap.size rfl HX.out Try.underlying34 rfl size_tk ?_; first | rw [rowT_arr0] | rw [rowT_arr]))
          (with_reducible refine HP.out.mono ?_)
          rintro e w2 ⟨rfl, v2, hJ2, hA2⟩
          obtain ⟨pa, cap, hv⟩ := hJ2.own.isSlice
          rw [rowsBy_len, copyW_len] at hv
          have c0 := hJ2.blk.cell 0
          have c1 := hJ2.blk.cell 1
          simp only [List.getElem?_cons_zero, List.getElem?_cons_succ] at c0 c1
          rw [hv] at c0
          have d1 := D1.out
          have HB2 := Lib.hid (HB1.out.trans hA2.below)
          have HJ2 := Lib.hid hJ2
          clear hJ2 hA2 hv
          obtain ⟨N, hN⟩ : ∃ N, b.length + m = N := ⟨_, rfl⟩
          rw [hN] at c0 d1
          clear hN
          go_wp2_with fail
          go_quiet (fail)
          go_wp2
          go_ret
          exact ⟨rfl, (fun _ => ⟨_, HJ2.out.below (below_drewN (Below.refl _ _) _)⟩), below_drewN HB2.out _⟩
end Go.Proofs.Ytpjihjbgihionaa
namespace Go.Proofs.Ytpjihjbgihionaa
open Go.RowKit
set_option linter.unusedVariables false

def EachRet (w0 : World) (J : Nat) (most : Int) (out : List Nat) (er : Nat) (e : Ending) (w' : World) : Prop := e = .returned (.int .i64 (er : Int)) ∧ (er = 0 → ∃ v', JW w' w0.heap.size J most v' out) ∧ Below w0.heap.size w0 w'
set_option maxRecDepth 100000 in
set_option maxHeartbeats 2000000 in
theorem j_each (T : List (Nat × Int × Int)) (p : Option Addr) (cap : Nat) (w0 w : World) (hS : Sl w0 3 (.slice p T.length cap) (rowsTk T)) (hl : T.length ≤ 20000) (hb : Below w0.heap.size w0 w) (J : Nat) (most : Int) (v : Value) (h : JW w w0.heap.size J most v []) (out : List Nat) (er : Nat) (hR : joinW most T [] = (out, er)) :
    Calls Try.prog 88 #[.slice p T.length cap, .func (.func 89) #[.pointer (some ⟨J, 0, none⟩)] #[]] w (EachRet w0 J most out er) := by
  have HS := Lib.hid hS
  have HB := Lib.hid hb
  have H := Lib.hid h
  have HR := Lib.hid hR
  clear hS hb h hR
  go_enter Try.func88, Try.ntmps88
  go_wp2
  go_loopw [10] (fun i wr => ∃ (j : Nat) (v1 : Value) (b : List Nat), j ≤ T.length ∧ i = .int .i64 (j : Int) ∧ JW wr w0.heap.size J most v1 b ∧ joinW most (T.drop j) b = joinW most T [] ∧ b.length ≤ 34 * j ∧ Below w0.heap.size w0 wr) (fun i _ => T.length - (intOf i).toNat)
  case atStart => exact ⟨0, v, [], by omega, rfl, H.out, rfl, by simp, HB.out⟩
  case round =>
    obtain ⟨j, v1, b, hj, rfl, gJ, gR, gl, gb⟩ := hrel
    clear H HB
    by_cases hlt : j < T.length
    · have d1 : (j : Int) < (T.length : Int) := by omega
      obtain ⟨a, rfl, hc⟩ := (HS.out.below gb).row (rowsTk_at hlt)
      have hdr : T.drop j = T[j] :: T.drop (j + 1) := List.drop_eq_getElem_cons hlt
      have hsl := step_len most T[j] b
      rw [hdr, join_cons] at gR
      obtain ⟨⟨c, n, k⟩, ht⟩ : ∃ t, T[j] = t := ⟨_, rfl⟩
      obtain ⟨⟨er1, b1⟩, hst⟩ : ∃ r, stepW most T[j] b = r := ⟨_, rfl⟩
      rw [hst] at gR hsl
      rw [ht] at hc hst
      simp only at gR hsl
      have K4 := Blk.new' wr 34 (c := #[.int .u8 0, .int .i64 0, .int .i64 0]) [.int .u8 0, .int .i64 0, .int .i64 0] rfl
      have K5 := K4.row (rowT (c, n, k)) rfl
      obtain ⟨w5, hw5⟩ : ∃ w5, (wr.alloc (.cells #[.int .u8 0, .int .i64 0, .int .i64 0] 34)).setRow wr.heap.size (rowT (c, n, k)).toArray = w5 := ⟨_, rfl⟩
      have hb5 : Below wr.heap.size wr w5 := by rw [← hw5]; exact below_setRow ((Below.refl _ _).alloc (Nat.le_refl _) _) (Nat.le_refl _) _
      rw [hw5] at K5
      have gJ5 := gJ.below hb5
      have gb5 := gb.trans (hb5.mono gb.size)
      have hP := j_put gJ5 (c, n, k) (by omega) er1 b1 hst
      simp only at hP
      have HC := Lib.hid hc
      have HP := Lib.hid hP
      have KK4 := Lib.hid K4
      have KK5 := Lib.hid K5
      have HW5 := Lib.hid hw5
      have GB := Lib.hid gb5
      have GR := Lib.hid gR
      clear hc hP K4 K5 hw5 gb5 gR gb hb5 gJ gJ5 hst ht hdr
      go_wp2_with (first | (refine wpList_load_addr rfl 34 _ rfl _ rfl (rowT (c, n, k)) HC.out Try.underlying34 rfl size_tk ?_) | (refine wpList_store_blk rfl 34 _ _ rfl wr.heap.size (rowT (c, n, k)) rfl rfl KK4.out size_tk rfl (rowT_one _) ?_; rw [HW5.out]) | (refine wpList_load_blk rfl 34 _ rfl wr.heap.size rfl KK5.out Try.underlying34 rfl size_tk ?_; rw [rowT_arr]))
      (with_reducible refine HP.out.mono ?_)
      rintro e w6 ⟨rfl, hJ6, hb6⟩
      have HJ6 := Lib.hid hJ6
      have GB6 := Lib.hid (GB.out.trans hb6)
      clear hJ6 hb6 HP GB
      by_cases he : er1 = 0
      · subst he
        have hR := GR.out
        rw [if_pos rfl] at hR
        obtain ⟨v6, hJ⟩ := HJ6.out rfl
        have HJ := Lib.hid hJ
        have GR2 := Lib.hid hR
        clear hJ hR GR HJ6
        go_wp2
        go_roundw
        case rel => exact ⟨j + 1, v6, b1, by omega, by go_num, HJ.out, GR2.out, by omega, GB6.out⟩
        case measure => (simp [intOf]; try omega)
      · have e0 : ((er1 : Int) != 0) = true := by rw [bne_iff_ne]; omega
        have hR := GR.out
        rw [if_neg he, HR.out] at hR
        cases hR
        clear HJ6 he
        go_wp2
        go_ret
        exact ⟨rfl, (fun h => by rw [h] at e0; cases e0), GB6.out⟩
    · obtain rfl : j = T.length := by omega
      rw [List.drop_length, HR.out] at gR
      cases gR
      have GJ := Lib.hid gJ
      have GB := Lib.hid gb
      clear gJ gb
      go_wp2
      go_ret
      exact ⟨rfl, fun _ => ⟨v1, GJ.out⟩, GB.out⟩
theorem rowsBy_flat (l : List Nat) : (rowsBy l).flatten = ints .u8 (nn l) := by
  induction l with
  | nil => rfl
  | cons n l ih =>
    have e : rowsBy (n :: l) = [.int .u8 (n : Int)] :: rowsBy l := rfl
    rw [e, List.flatten_cons, ih]
    rfl
theorem own_bytes {w : World} {B : Nat} {e : TypeId} {v : Value} {b : List Nat} (h : OwnR w B e 1 v (rowsBy b)) : OwnB w B e v (nn b) := by
  have := h.2
  rw [rowsBy_flat, rowsBy_len] at this
  unfold OwnB
  rw [nn_length]
  exact this
theorem build_jd (n : Int) (w : World) : (Instr.build 140 #[(1, .int .i64 n)]).run Try.prog w = .ok (.agg #[.slice none 0 0, .int .i64 n]) w := by kernel_rfl
set_option maxRecDepth 100000 in
set_option maxHeartbeats 2000000 in
theorem j_Join (T : List (Nat × Int × Int)) (p : Option Addr) (cap : Nat) (most : Int) (w : World) (hS : Sl w 3 (.slice p T.length cap) (rowsTk T)) (hl : T.length ≤ 20000) (out : List Nat) (er : Nat) (hR : joinW most T [] = (out, er)) :
    Calls Try.prog 75 #[.slice p T.length cap, .int .i64 most] w fun e w' => e = .returned (.tuple #[.string (tx out), .int .i64 (er : Int)]) ∧ Below w.heap.size w w' := by
  have hmf := mkf
  have hbj := build_jd
  have K := Blk.new' w 140 (c := #[.slice none 0 0, .int .i64 most]) [.slice none 0 0, .int .i64 most] rfl
  have hb := (Below.refl w.heap.size w).alloc (Nat.le_refl _) (.cells #[.slice none 0 0, .int .i64 most] 140)
  have hJ : JW (w.alloc (.cells #[.slice none 0 0, .int .i64 most] 140)) w.heap.size w.heap.size most (.slice none 0 0) [] := ⟨K, OwnR.nil _ _ _ _, Nat.le_refl _⟩
  have hE := j_each T p cap w _ hS hl hb w.heap.size most _ hJ out er hR
  have HE := Lib.hid hE
  have hout : er ≠ 0 → out = [] := by
    intro he
    have : ∀ (T : List (Nat × Int × Int)) (b : List Nat), (joinW most T b).2 ≠ 0 → (joinW most T b).1 = [] := by
      intro T
      induction T with
      | nil => intro b h; exact absurd rfl h
      | cons t T ih =>
        intro b h
        rw [join_cons] at h ⊢
        split
        · rename_i h1
          rw [if_pos h1] at h
          exact ih _ h
        · rfl
    have h := this T [] (by rw [hR]; exact he)
    rw [hR] at h
    exact h
  have HO := Lib.hid hout
  clear K hb hJ hE hS hR hout
  go_enter Try.func75, Try.ntmps75
  go_wp2_with fail
  (with_reducible refine HE.out.mono ?_)
  rintro e w1 ⟨rfl, hJ1, hb1⟩
  have HB1 := Lib.hid hb1
  clear hb1 HE
  by_cases he : er = 0
  · subst he
    obtain ⟨v, hJ⟩ := hJ1 rfl
    have c0 := hJ.blk.cell 0
    simp only [List.getElem?_cons_zero] at c0
    have HOW := Lib.hid (own_bytes hJ.own)
    obtain ⟨pa, ca, hv⟩ := hJ.own.isSlice
    obtain ⟨N, hN⟩ : ∃ N, (rowsBy out).length = N := ⟨_, rfl⟩
    rw [hN] at hv
    subst hv
    clear hJ hJ1 hN
    go_wp2_with (refine wpList_string_own rfl 40 9 5 _ rfl w.heap.size _ (nn out) rfl Try.underlying40 Try.underlying5 Try.underlying9 HOW.out ?_)
    go_ret2
    exact ⟨rfl, HB1.out⟩
  · have e0 : ((er : Int) != 0) = true := by rw [bne_iff_ne]; omega
    have ho := HO.out he
    subst ho
    clear he hJ1
    go_wp2
    go_ret2
    exact ⟨rfl, HB1.out⟩
end Go.Proofs.Ytpjihjbgihionaa
namespace Go.Proofs.Ytpjihjbgihionaa
open Go.RowKit
set_option linter.unusedVariables false

/-- a byte more, in a block of its own: what an append wants -/
theorem byte_more {w wr : World} {v : Value} {b : List Nat} (x : Nat) (hn : b.length ≤ 1000000) (gO : OwnR wr w.heap.size 5 1 v (rowsBy b)) (gb : Below w.heap.size w wr) :
    Sl (wr.alloc (.cells #[.int .u8 (x : Int)] 5)) 1 (.slice (some ⟨wr.heap.size, 0, none⟩) 1 1) [[.int .u8 (x : Int)]] ∧ OwnR (wr.alloc (.cells #[.int .u8 (x : Int)] 5)) w.heap.size 5 1 v (rowsBy b) ∧ Below w.heap.size w (wr.alloc (.cells #[.int .u8 (x : Int)] 5)) ∧
    (∀ r ∈ [[Value.int .u8 (x : Int)]], ∀ u ∈ r, u.oneCell' = true) ∧ (rowsBy b).length + [[Value.int .u8 (x : Int)]].length ≤ maxLen ∧ ((rowsBy b).length + [[Value.int .u8 (x : Int)]].length) * 1 ≤ 140737488355328 ∧ w.heap.size ≤ (wr.alloc (.cells #[.int .u8 (x : Int)] 5)).heap.size ∧
    (∀ b, v.ownBlock = some b → w.heap.size ≤ b ∧ b < wr.heap.size) := by
  have hb := gb.alloc gb.size (.cells #[.int .u8 (x : Int)] 5)
  refine ⟨sl_one (Blk.new' wr 5 [.int .u8 (x : Int)] rfl), gO.alloc _, hb, by simp [Value.oneCell'], ?_, ?_, hb.size, gO.lt⟩
  · rw [rowsBy_len, List.length_singleton]; unfold maxLen; omega
  · rw [rowsBy_len, List.length_singleton]; omega
end Go.Proofs.Ytpjihjbgihionaa
