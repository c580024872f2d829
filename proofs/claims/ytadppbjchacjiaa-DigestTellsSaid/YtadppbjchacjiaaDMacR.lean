/- Walk of the reference's Mac. -/
import Derived.Test.YtadppbjchacjiaaDRefC
import Derived.Test.YtadppbjchacjiaaDMacs
import Derived.Maps.AppendAt
namespace Go.Proofs.Ytadppbjchacjiaa
open Go.RowKit
set_option linter.unusedVariables false

theorem xorTo_getD (m : Int) (l : List Int) : ∀ n, n ≤ l.length → ∀ j, (xorTo m l n).getD j 0 = if j < n then bits .xor .u8 (l.getD j 0) m else l.getD j 0
  | 0, _, j => by rw [if_neg (by omega)]; rfl
  | n + 1, h, j => by
    show ((xorTo m l n).set n (bits .xor .u8 ((xorTo m l n).getD n 0) m)).getD j 0 = _
    rw [List.getD_eq_getElem?_getD, List.getElem?_set]
    by_cases e : n = j
    · subst e
      rw [if_pos rfl, if_pos (by rw [xorTo_len]; omega), if_pos (by omega), xorTo_getD m l n (by omega), if_neg (by omega)]
      rfl
    · rw [if_neg e, ← List.getD_eq_getElem?_getD, xorTo_getD m l n (by omega)]
      by_cases h2 : j < n
      · rw [if_pos h2, if_pos (by omega)]
      · rw [if_neg h2, if_neg (by omega)]
theorem maskL_getD (k : ByteArray) (hk : k.size ≤ 64) (m : Int) (j : Nat) (hj : j < 64) : (maskL k m).getD j 0 = bits .xor .u8 (if j < k.size then (is k).getD j 0 else 0) m := by
  unfold maskL
  rw [xorTo_getD m _ 64 (by rw [padK_len k hk]; exact Nat.le_refl _), if_pos hj]
  congr 1
  unfold padK
  rw [List.getD_eq_getElem?_getD, List.getElem?_append, is_length]
  split
  · rw [← List.getD_eq_getElem?_getD]
  · simp [zer, List.getElem?_replicate]
    split <;> rfl
theorem take_snocI (L : List Int) (j : Nat) (h : j < L.length) : L.take (j + 1) = L.take j ++ [L.getD j 0] := by
  rw [List.take_add_one, List.getElem?_eq_getElem h, List.getD_eq_getElem?_getD, List.getElem?_eq_getElem h]
  rfl
theorem OwnB.grownO {w w' : World} {base : Nat} {e : TypeId} {v : Value} {l : List Int} {row : Option Nat} (h : OwnB w base e v l) (hg : w.grownBy w' row) (hne : ∀ i, row = some i → v.ownBlock ≠ some i) : OwnB w' base e v l := by
  obtain ⟨h1, h2⟩ := h
  refine ⟨h1, ?_⟩
  rcases h2 with h2 | ⟨g, cap, cur, hv, hg', hh, r⟩
  · exact .inl h2
  · refine .inr ⟨g, cap, cur, hv, hg', ?_, r⟩
    rw [hg.block g (Array.getElem?_eq_some_iff.1 hh).1 (fun e => hne g e.symm (by rw [hv]; rfl))]
    exact hh
theorem Blk.grownO {W W' : World} {b : Nat} {t : TypeId} {vs : List Value} {row : Option Nat} (h : Blk W b t vs) (hg : W.grownBy W' row) (hne : ∀ i, row = some i → i ≠ b) : Blk W' b t vs := by
  have h' := h
  unfold Blk at h' ⊢
  rw [hg.block b h.lt (fun e => hne b e.symm rfl)]
  exact h'
theorem OwnB.keepB {w w' : World} {base : Nat} {e : TypeId} {v : Value} {l : List Int} (h : OwnB w base e v l) (hb : Below w.heap.size w w') : OwnB w' base e v l := h.below hb (fun k hk => (h.lt k hk).2)
theorem index_is (s : ByteArray) (kk : IntKind) (j : Nat) (hj : j < s.size) (w : World) :
    (Instr.index 9 (.string s) (.int kk (j : Int))).run Try.prog w = .ok (.int .u8 ((is s).getD j 0)) w := by
  have hv : s.data.toList[j]? = some (s.data.toList[j]'(by simpa using hj)) := List.getElem?_eq_getElem _
  have hg : (is s).getD j 0 = ((s.get j hj).toNat : Int) := by
    unfold is
    rw [List.getD_eq_getElem?_getD, List.getElem?_map, hv]
    rfl
  rw [hg]
  simp [Instr.index, asIntOf, Sem.run_bind, run_underlying Try.underlying9 w, hj]
  rfl
section
variable {P : Program} {C : World → Prop} {zs : Array Oper} {Q : Act → Prop} {op : Oper} {rest : List Oper} {a : Act}
theorem wpQuiet_string_own (hgd : op.guard = none) (src dst e : TypeId) (x : Operand) (ho : op.op = .convert src dst x) (base : Nat) (v : Value) (l : List Int)
    (hx : a.eval x = v) (hs : P.underlying src = some (.slice e)) (he : P.underlying e = some (.int .u8)) (hd : P.underlying dst = some .string)
    (hc : ∀ w', C w' → OwnB w' base e v l) (h : wpQuiet P zs C Q rest (a.put op.dst (.string (bs l)))) : wpQuiet P zs C Q (op :: rest) a :=
  wpQuiet_run hgd (.string (bs l)) (fun w' hw' => by
    unfold execOp
    simp only [ho, hx, Sem.run_bind, run_string_own (P := P) (w := w') src dst e base v l hs he hd (hc w' hw'), Result.andThen_ok]
    rfl) h
end

theorem mac_ne5 {wr w5 : World} {base : Nat} {vA v5 vB : Value} {lB : List Int} {o : Obj} (hB : OwnB wr base 5 vB lB) (hne : ∀ x, vA.ownBlock = some x → vB.ownBlock ≠ some x)
    (hat5 : v5.ownBlock = vA.ownBlock ∨ v5.ownBlock = some (wr.alloc o).heap.size) : ∀ x, v5.ownBlock = some x → vB.ownBlock ≠ some x := by
  intro x hx hb
  rcases hat5 with h | h
  · exact hne x (h ▸ hx) hb
  · have h1 := (hB.lt x hb).2
    rw [h] at hx
    simp at hx
    omega
theorem mac_rowB {wr w5 : World} {base : Nat} {vA : Value} {pb : Option Addr} {j cb : Nat} {lB : List Int} {o : Obj} (hg5 : (wr.alloc o).grownBy w5 vA.ownBlock) (hne : ∀ x, vA.ownBlock = some x → (Value.slice pb j cb).ownBlock ≠ some x)
    (hB : OwnB wr base 5 (.slice pb j cb) lB) (hl : lB.length = j) (y : Int) : (w5.alloc (.cells #[.int .u8 y] 5)).ownsRow base 5 1 (.slice pb j cb) j (ints .u8 lB) := by
  have := ((hB.alloc o).grownO hg5 hne).alloc (.cells #[.int .u8 y] 5)
  unfold OwnB at this
  rw [hl] at this
  exact this
theorem mac_base {wr w5 : World} {B : Nat} {o : Obj} {r : Option Nat} (hg5 : (wr.alloc o).grownBy w5 r) (h : B ≤ wr.heap.size) (y : Int) (hB : B < wr.heap.size := by omega) : B + 1 ≤ (w5.alloc (.cells #[.int .u8 y] 5)).heap.size := by
  have := hg5.size
  simp at this ⊢
  omega
theorem mac_round {w wr w5 w6 : World} {j ca cb c5 c6 : Nat} {pa pb p5 p6 : Option Addr} {LA1 LB1 : List Int} {yA yB : Int} {vs : List Value}
    (gA : OwnB wr (w.heap.size + 1) 5 (.slice pa j ca) LA1) (gB : OwnB wr (w.heap.size + 1) 5 (.slice pb j cb) LB1)
    (hne : ∀ x, (Value.slice pa j ca).ownBlock = some x → (Value.slice pb j cb).ownBlock ≠ some x)
    (gr : Blk wr w.heap.size 23 vs) (gb : Below w.heap.size w wr) (lA : LA1.length = j) (lB : LB1.length = j)
    (o5 : w5.ownsRow (w.heap.size + 1) 5 1 (.slice p5 (j + 1) c5) (j + 1) (ints .u8 LA1 ++ [.int .u8 yA]))
    (hg5 : (wr.alloc (.cells #[.int .u8 yA] 5)).grownBy w5 (Value.slice pa j ca).ownBlock)
    (hat5 : (Value.slice p5 (j + 1) c5).ownBlock = (Value.slice pa j ca).ownBlock ∨ (Value.slice p5 (j + 1) c5).ownBlock = some (wr.alloc (.cells #[.int .u8 yA] 5)).heap.size)
    (o6 : w6.ownsRow (w.heap.size + 1) 5 1 (.slice p6 (j + 1) c6) (j + 1) (ints .u8 LB1 ++ [.int .u8 yB]))
    (hg6 : (w5.alloc (.cells #[.int .u8 yB] 5)).grownBy w6 (Value.slice pb j cb).ownBlock)
    (hat6 : (Value.slice p6 (j + 1) c6).ownBlock = (Value.slice pb j cb).ownBlock ∨ (Value.slice p6 (j + 1) c6).ownBlock = some (w5.alloc (.cells #[.int .u8 yB] 5)).heap.size) :
    OwnB w6 (w.heap.size + 1) 5 (.slice p5 (j + 1) c5) (LA1 ++ [yA]) ∧ OwnB w6 (w.heap.size + 1) 5 (.slice p6 (j + 1) c6) (LB1 ++ [yB]) ∧
    (∀ x, (Value.slice p5 (j + 1) c5).ownBlock = some x → (Value.slice p6 (j + 1) c6).ownBlock ≠ some x) ∧ Blk w6 w.heap.size 23 vs ∧ Below w.heap.size w w6 := by
  have hne5 := mac_ne5 (w5 := w5) gB hne hat5
  have O5 : OwnB w5 (w.heap.size + 1) 5 (.slice p5 (j + 1) c5) (LA1 ++ [yA]) := by
    unfold OwnB
    rw [List.length_append, lA, ints_app]
    exact o5
  have O6 : OwnB w6 (w.heap.size + 1) 5 (.slice p6 (j + 1) c6) (LB1 ++ [yB]) := by
    unfold OwnB
    rw [List.length_append, lB, ints_app]
    exact o6
  have lb := fun x h => (gB.lt x h).1
  have la := fun x h => (gA.lt x h).1
  have hs := gb.size
  have k5 := (gb.alloc hs (.cells #[.int .u8 yA] 5)).grown hg5 (by simp; omega) (fun i hi => by have := la i hi; omega)
  have k6 := (k5.alloc k5.size (.cells #[.int .u8 yB] 5)).grown hg6 (by have := k5.size; simp; omega) (fun i hi => by have := lb i hi; omega)
  refine ⟨(O5.alloc _).grownO hg6 (fun i hi h => hne5 i h hi), O6, ?_, ((gr.alloc _).grownO hg5 (fun i hi h => by have := la i hi; omega)).alloc _ |>.grownO hg6 (fun i hi h => by have := lb i hi; omega), k6⟩
  intro x hx h
  rcases hat6 with h6 | h6
  · exact hne5 x hx (h6 ▸ h)
  · have := (O5.lt x hx).2
    rw [h6] at h
    simp at h
    omega

set_option maxHeartbeats 2000000 in
set_option maxRecDepth 100000 in
theorem r_Mac_short (key s : ByteArray) (w : World) (hk : key.size ≤ 64) (hs : s.size ≤ 549755813000) :
    Calls Try.prog 12 #[.string key, .string s] w fun e w' => e = .returned (.agg (ints .u8 (macOf key s)).toArray) ∧ Below w.heap.size w w' := by
  have hOL : (macOf key s).length = 32 := sumL_len _
  have hA := fun w => r_Sum' (bs (maskL key 54) ++ s) w (by rw [ByteArray.size_append, bs_size, maskL_len key hk]; omega)
  have hB := fun w => r_Bytes (innerL key s) w (sumL_len _)
  have hC := fun w => r_Sum' (bs (maskL key 92) ++ bs (innerL key s)) w (by rw [ByteArray.size_append, bs_size, bs_size, maskL_len key hk, show (innerL key s).length = 32 from sumL_len _]; omega)
  rw [show sumL (bs (maskL key 54) ++ s) = innerL key s from rfl] at hA
  rw [show sumL (bs (maskL key 92) ++ bs (innerL key s)) = macOf key s from rfl] at hC
  have add1 : ∀ w, (Op.stringOp .add (bs (maskL key 54)) s).run Try.prog w = .ok (.string (bs (maskL key 54) ++ s)) w := fun w => by
    rw [run_string_add_sum]
    rw [bs_size, maskL_len key hk]; omega
  have add2 : ∀ w, (Op.stringOp .add (bs (maskL key 92)) (bs (innerL key s))).run Try.prog w = .ok (.string (bs (maskL key 92) ++ bs (innerL key s))) w := fun w => by
    rw [run_string_add_sum]
    rw [bs_size, maskL_len key hk, bs_size, show (innerL key s).length = 32 from sumL_len _]; omega
  have gA := maskL_getD key hk 54
  have gB := maskL_getD key hk 92
  have lA := maskL_len key hk 54
  have lB := maskL_len key hk 92
  generalize macOf key s = O at *
  generalize innerL key s = I at *
  generalize maskL key 54 = MA at *
  generalize maskL key 92 = MB at *
  obtain ⟨i0, hi0, hz0, hz1, hz2⟩ := info_parts info_u8
  have HA := Lib.hid hA
  have HB := Lib.hid hB
  have HC := Lib.hid hC
  have GA := Lib.hid gA
  have GB := Lib.hid gB
  have LA := Lib.hid lA
  have LB := Lib.hid lB
  have HOL := Lib.hid hOL
  clear hA hB hC gA gB lA lB hOL
  have c1 : ¬ ((64 : Int) < (key.size : Int)) := by omega
  have hres := Blk.new' w 23 (ints .u8 (zer 32)) rfl
  have hb0 := (Below.refl w.heap.size w).alloc (Nat.le_refl _) (.cells (ints .u8 (zer 32)).toArray 23)
  have hs0 : (w.alloc (.cells (ints .u8 (zer 32)).toArray 23)).heap.size = w.heap.size + 1 := by simp
  go_enter Try.func12, Try.ntmps12
  go_wp2
  have qr := ((hres.alloc (.cells #[] 5)).alloc (.cells #[] 5))
  have qb := (hb0.alloc (by rw [hs0]; omega) (.cells #[] 5)).alloc (by simp; omega) (.cells #[] 5)
  have qA := OwnB.ofBlk (base := w.heap.size + 1) (cap := 0) (l := MA.take 0) [] ((Blk.new' (w.alloc (.cells (ints .u8 (zer 32)).toArray 23)) 5 (c := #[]) (ints .u8 (MA.take 0 ++ [])) (by simp [ints])).alloc (.cells #[] 5)) (by rw [hs0]; exact Nat.le_refl _) (by simp) (Nat.zero_le _)
  have qB := OwnB.ofBlk (base := w.heap.size + 1) (cap := 0) (l := MB.take 0) [] (Blk.new' ((w.alloc (.cells (ints .u8 (zer 32)).toArray 23)).alloc (.cells #[] 5)) 5 (c := #[]) (ints .u8 (MB.take 0 ++ [])) (by simp [ints])) (by simp) (by simp) (Nat.zero_le _)
  rw [hs0] at qA
  rw [show ((w.alloc (.cells (ints .u8 (zer 32)).toArray 23)).alloc (.cells #[] 5)).heap.size = w.heap.size + 1 + 1 by simp] at qB
  rw [show (ints .u8 (zer 32)).toArray = (#[(.int .u8 0 : Value), (.int .u8 0 : Value), (.int .u8 0 : Value), (.int .u8 0 : Value), (.int .u8 0 : Value), (.int .u8 0 : Value), (.int .u8 0 : Value), (.int .u8 0 : Value), (.int .u8 0 : Value), (.int .u8 0 : Value), (.int .u8 0 : Value), (.int .u8 0 : Value), (.int .u8 0 : Value), (.int .u8 0 : Value), (.int .u8 0 : Value), (.int .u8 0 : Value), (.int .u8 0 : Value), (.int .u8 0 : Value), (.int .u8 0 : Value), (.int .u8 0 : Value), (.int .u8 0 : Value), (.int .u8 0 : Value), (.int .u8 0 : Value), (.int .u8 0 : Value), (.int .u8 0 : Value), (.int .u8 0 : Value), (.int .u8 0 : Value), (.int .u8 0 : Value), (.int .u8 0 : Value), (.int .u8 0 : Value), (.int .u8 0 : Value), (.int .u8 0 : Value)] : Array Value) from rfl] at qr qA qB qb
  clear hres hb0 hs0
  generalize World.alloc _ (.cells #[] 5) = w3 at *
  go_loopw [6, 7, 8] (fun va vb i wr => ∃ (j : Nat) (pa : Option Addr) (ca : Nat) (pb : Option Addr) (cb : Nat), i = .int .i64 (j : Int) ∧ va = .slice pa j ca ∧ vb = .slice pb j cb ∧ OwnB wr (w.heap.size + 1) 5 (.slice pa j ca) (MA.take j) ∧ OwnB wr (w.heap.size + 1) 5 (.slice pb j cb) (MB.take j) ∧ (∀ x, (Value.slice pa j ca).ownBlock = some x → (Value.slice pb j cb).ownBlock ≠ some x) ∧ j ≤ 64 ∧ Blk wr w.heap.size 23 (ints .u8 (zer 32)) ∧ Below w.heap.size w wr) (fun _ _ i _ => 64 - (intOf i).toNat)
  case atStart => exact ⟨0, _, 0, _, 0, rfl, rfl, rfl, qA, qB, (fun x h => by cases h; simp [Value.ownBlock]), by omega, qr, qb⟩
  case round =>
    obtain ⟨j, pa, ca, pb, cb, rfl, rfl, rfl, goA, goB, hne, hj, gr, gb⟩ := hrel
    clear qA qB qr qb
    by_cases hlt : j < 64
    · have tA := take_snocI MA j (by rw [LA.out]; exact hlt)
      have tB := take_snocI MB j (by rw [LB.out]; exact hlt)
      rw [GA.out j hlt] at tA
      rw [GB.out j hlt] at tB
      obtain ⟨LA1, hLA1⟩ : ∃ L, MA.take j = L := ⟨_, rfl⟩
      obtain ⟨LB1, hLB1⟩ : ∃ L, MB.take j = L := ⟨_, rfl⟩
      have llA : LA1.length = j := by rw [← hLA1, List.length_take, LA.out]; omega
      have llB : LB1.length = j := by rw [← hLB1, List.length_take, LB.out]; omega
      rw [hLA1] at goA tA
      rw [hLB1] at goB tB
      clear hLA1 hLB1
      have TA := Lib.hid tA
      have TB := Lib.hid tB
      have LLA := Lib.hid llA
      have LLB := Lib.hid llB
      have rowA : ∀ y : Int, (wr.alloc (.cells #[.int .u8 y] 5)).ownsRow (w.heap.size + 1) 5 1 (.slice pa j ca) j (ints .u8 LA1) := fun y => by
        have := goA.alloc (.cells #[.int .u8 y] 5)
        unfold OwnB at this
        rw [llA] at this
        exact this
      have hone : ∀ y : Int, ∀ u ∈ [Value.int .u8 y], u.oneCell' = true := by simp [Value.oneCell']
      have h63 : j + 1 ≤ maxLen := by simp [maxLen]; omega
      have hbyy : (j + 1) * 1 ≤ 140737488355328 := by omega
      have gs := gb.size
      have grl := gr.lt
      have hbase : ∀ y : Int, w.heap.size + 1 ≤ (wr.alloc (.cells #[.int .u8 y] 5)).heap.size := fun y => by simp; omega
      have RowA := Lib.hid rowA
      have HOne := Lib.hid hone
      have H63 := Lib.hid h63
      have HBY := Lib.hid hbyy
      have HBS := Lib.hid hbase
      have GoB := Lib.hid goB
      have GoA := Lib.hid goA
      have HNE := Lib.hid hne
      have GR := Lib.hid gr
      have GBw := Lib.hid gb
      have e1 : (j : Int) < 64 := by omega
      clear rowA hone h63 hbyy hbase goA goB hne gr gb tA tB llA llB
      by_cases hjk : j < key.size
      · rw [if_pos hjk] at TA TB
        have hidx := index_is key .i64 j hjk
        generalize (is key).getD j 0 = c at *
        have e2 : (j : Int) < (key.size : Int) := by omega
        go_wp2_with (first | (at_builtin; refine wpList_append_own_at _ rfl _ _ 36 rfl (w.heap.size + 1) 5 i0 (.int .u8 0) 1 1 Try.underlying36 hi0 hz0 hz1 hz2 rfl (by decide) (.slice pa j ca) j _ rfl (RowA.out (bits .xor .u8 c 54)) ⟨wr.heap.size, 0, none⟩ 1 1 [.int .u8 (bits .xor .u8 c 54)] rfl rfl (cell_one_new _ _ _) (HOne.out _) H63.out HBY.out (HBS.out _) ?_; intro v5 w5 hown5 hg5 hnil5 hat5; obtain ⟨p5, cap5, rfl⟩ := own_slice hown5) | (at_builtin; refine wpList_append_own_at _ rfl _ _ 36 rfl (w.heap.size + 1) 5 i0 (.int .u8 0) 1 1 Try.underlying36 hi0 hz0 hz1 hz2 rfl (by decide) (.slice pb j cb) j _ rfl (mac_rowB hg5 HNE.out GoB.out LLB.out (bits .xor .u8 c 92)) ⟨w5.heap.size, 0, none⟩ 1 1 [.int .u8 (bits .xor .u8 c 92)] rfl rfl (cell_one_new _ _ _) (HOne.out _) H63.out HBY.out (mac_base hg5 gs (bits .xor .u8 c 92)) ?_; intro v6 w6 hown6 hg6 hnil6 hat6; obtain ⟨p6, cap6, rfl⟩ := own_slice hown6))
        go_roundw
        case rel =>
          obtain ⟨q1, q2, q3, q4, q5⟩ := mac_round GoA.out GoB.out HNE.out GR.out GBw.out LLA.out LLB.out hown5 hg5 hat5 hown6 hg6 hat6
          rw [← TA.out] at q1
          rw [← TB.out] at q2
          exact ⟨j + 1, p5, cap5, p6, cap6, by go_num, rfl, rfl, q1, q2, q3, by omega, q4, q5⟩
        case measure => simp [intOf]; omega
      · rw [if_neg hjk] at TA
        rw [if_neg hjk] at TB
        have e2 : ¬ (j : Int) < (key.size : Int) := by omega
        go_wp2_with (first | (at_builtin; refine wpList_append_own_at _ rfl _ _ 36 rfl (w.heap.size + 1) 5 i0 (.int .u8 0) 1 1 Try.underlying36 hi0 hz0 hz1 hz2 rfl (by decide) (.slice pa j ca) j _ rfl (RowA.out (bits .xor .u8 0 54)) ⟨wr.heap.size, 0, none⟩ 1 1 [.int .u8 (bits .xor .u8 0 54)] rfl rfl (cell_one_new _ _ _) (HOne.out _) H63.out HBY.out (HBS.out _) ?_; intro v5 w5 hown5 hg5 hnil5 hat5; obtain ⟨p5, cap5, rfl⟩ := own_slice hown5) | (at_builtin; refine wpList_append_own_at _ rfl _ _ 36 rfl (w.heap.size + 1) 5 i0 (.int .u8 0) 1 1 Try.underlying36 hi0 hz0 hz1 hz2 rfl (by decide) (.slice pb j cb) j _ rfl (mac_rowB hg5 HNE.out GoB.out LLB.out (bits .xor .u8 0 92)) ⟨w5.heap.size, 0, none⟩ 1 1 [.int .u8 (bits .xor .u8 0 92)] rfl rfl (cell_one_new _ _ _) (HOne.out _) H63.out HBY.out (mac_base hg5 gs (bits .xor .u8 0 92)) ?_; intro v6 w6 hown6 hg6 hnil6 hat6; obtain ⟨p6, cap6, rfl⟩ := own_slice hown6))
        go_roundw
        case rel =>
          obtain ⟨q1, q2, q3, q4, q5⟩ := mac_round GoA.out GoB.out HNE.out GR.out GBw.out LLA.out LLB.out hown5 hg5 hat5 hown6 hg6 hat6
          rw [← TA.out] at q1
          rw [← TB.out] at q2
          exact ⟨j + 1, p5, cap5, p6, cap6, by go_num, rfl, rfl, q1, q2, q3, by omega, q4, q5⟩
        case measure => simp [intOf]; omega
    · obtain rfl : j = 64 := by omega
      rw [List.take_of_length_le (by rw [LA.out]; exact Nat.le_refl _)] at goA
      rw [List.take_of_length_le (by rw [LB.out]; exact Nat.le_refl _)] at goB
      have hA1 : ∀ wx, NewBut wr wx → Calls Try.prog 10 #[.string (bs MA ++ s)] wx fun e w' => e = .returned (.agg (ints .u8 I).toArray) ∧ NewBut wr w' := fun wx h => (HA.out wx).mono fun _ _ ⟨q1, q2⟩ => ⟨q1, h.trans (q2.mono h.size)⟩
      have hB1 : ∀ wx, NewBut wr wx → Calls Try.prog 17 #[.agg (ints .u8 I).toArray] wx fun e w' => e = .returned (.string (bs I)) ∧ NewBut wr w' := fun wx h => (HB.out wx).mono fun _ _ ⟨q1, q2⟩ => ⟨q1, h.trans (q2.mono h.size)⟩
      have hC1 : ∀ wx, NewBut wr wx → Calls Try.prog 10 #[.string (bs MB ++ bs I)] wx fun e w' => e = .returned (.agg (ints .u8 O).toArray) ∧ NewBut wr w' := fun wx h => (HC.out wx).mono fun _ _ ⟨q1, q2⟩ => ⟨q1, h.trans (q2.mono h.size)⟩
      have HA1 := Lib.hid hA1
      have HB1 := Lib.hid hB1
      have HC1 := Lib.hid hC1
      have GoA := Lib.hid (fun wx (h : NewBut wr wx) => goA.keepB h)
      have GoB := Lib.hid (fun wx (h : NewBut wr wx) => goB.keepB h)
      clear hA1 hB1 hC1 goA goB
      go_wp2_with fail
      refine region_quiet_tail (C := NewBut wr) 10 mixed (by kernel_rfl) (show Below _ _ _ from (Below.refl _ _).drew) ?_
      simp only [List.take_succ_cons, List.take_zero, List.drop_succ_cons, List.drop_zero]
      repeat (first | (refine wpQuiet_string_own rfl 36 9 5 _ rfl (w.heap.size + 1) _ MB rfl Try.underlying36 Try.underlying5 Try.underlying9 GoB.out ?_) | (refine wpQuiet_string_own rfl 36 9 5 _ rfl (w.heap.size + 1) _ MA rfl Try.underlying36 Try.underlying5 Try.underlying9 GoA.out ?_) | (refine wpQuiet_step (fun K' hK' => ?_); go_simp; first | (refine ⟨_, fun _ _ => rfl, hK' _ ?_⟩; clear hK' K') | ((with_reducible refine ⟨_, fun wx hx => HA1.out wx hx, hK' _ ?_⟩); clear hK' K') | ((with_reducible refine ⟨_, fun wx hx => HB1.out wx hx, hK' _ ?_⟩); clear hK' K') | ((with_reducible refine ⟨_, fun wx hx => HC1.out wx hx, hK' _ ?_⟩); clear hK' K')))
      refine wpQuiet_nil ?_
      intro w5 hb5
      have hr5 := gr.below hb5 gr.lt
      refine wpList_store_blk rfl 23 _ _ rfl w.heap.size (ints .u8 O) rfl rfl hr5 (by rw [size_hash, ints_length, HOL.out]) (by rw [ints_length, ints_length, HOL.out]; rfl) (ints_one _ _) ?_
      go_wp2_with fail
      refine bodyPost_ret (v := .agg (ints .u8 O).toArray) (results_cell_blk rfl _ _ _ rfl (hr5.row (ints .u8 O) (by rw [ints_length, ints_length, HOL.out]; rfl)) Try.underlying23 rfl (by rw [size_hash, ints_length, HOL.out])) rfl ⟨rfl, below_setRow (gb.trans (hb5.mono gb.size)) (Nat.le_refl _) _⟩
end Go.Proofs.Ytadppbjchacjiaa
