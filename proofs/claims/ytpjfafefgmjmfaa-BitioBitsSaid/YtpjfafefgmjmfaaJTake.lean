/- Walk of bitio's Take, whose place is moved by a deferred closure. -/
import Derived.Test.YtpjfafefgmjmfaaJSmall
import Derived.Test.YtpjfafefgmjmfaaJNum
import Derived.Test.YtpjfafefgmjmfaaSlr
import Derived.Defers
import Derived.Maps.RangeWalk
namespace Go.Proofs.Ytpjfafefgmjmfaa
open Go.RowKit
set_option linter.unusedVariables false

theorem or_u32 (a b : Nat) (ha : a < 4294967296) (hb : b < 4294967296) : bits .or .u32 (a : Int) (b : Int) = ((a ||| b : Nat) : Int) :=
  (bits_nat .u32 32 (by decide) (fun n h0 h1 => by rw [IntKind.wrap_u32]; omega) a b ha hb).2
theorem wraps_u32 (n : Int) (h0 : 0 ≤ n) (h1 : n < 4294967296) : IntKind.u32.wrap n = n := by rw [IntKind.wrap_u32]; omega
theorem grown_setCell (w : World) (a : Addr) (u : Value) : w.grownBy (w.setCell a u) (some a.block) :=
  ⟨rfl, rfl, rfl, (KeepsWalks.setCell w a u).size, fun k _ hk => Below.heap_setCell _ _ _ k (fun e => hk (by rw [e]))⟩
/-- all is as it was but the block R, which has these cells -/
def Turned (w w' : World) (R : Nat) (t : TypeId) (vs : List Value) : Prop := w.grownBy w' (some R) ∧ Blk w' R t vs
theorem Turned.of_below {w w' : World} {R : Nat} {t : TypeId} {vs : List Value} (h : Below w.heap.size w w') (hR : Blk w R t vs) : Turned w w' R t vs := ⟨(grown_below h).but (some R), hR.below h hR.lt⟩
theorem Turned.set {w w' : World} {R : Nat} {t : TypeId} {vs : List Value} (h : Below w.heap.size w w') (hR : Blk w R t vs) (j : Nat) (v : Value) : Turned w (w'.setCell ⟨R, j, none⟩ v) R t (vs.set j v) :=
  ⟨((grown_below h).but (some R)).trans (grown_setCell w' ⟨R, j, none⟩ v), (hR.below h hR.lt).set j v⟩
theorem Turned.other {w w' : World} {R : Nat} {t : TypeId} {vs : List Value} (h : Turned w w' R t vs) {b : Nat} {t' : TypeId} {vs' : List Value} (hb : Blk w b t' vs') (hne : b ≠ R) : Blk w' b t' vs' := hb.grown h.1 hne
theorem Turned.below {B : Nat} {a w w' : World} {R : Nat} {t : TypeId} {vs : List Value} (h : Turned w w' R t vs) (hb : Below B a w) (hB : B ≤ w.heap.size) (hR : B ≤ R) : Below B a w' := hb.grown h.1 hB (fun k e => by cases e; exact hR)
theorem Turned.size {w w' : World} {R : Nat} {t : TypeId} {vs : List Value} (h : Turned w w' R t vs) : w.heap.size ≤ w'.heap.size := h.1.size
theorem results_tmp_cell {P : Program} {fn : Func} {p q : Tmp} {ty : TypeId} (h : fn.results = #[.tmp q, .cell p ty]) (tmps : Array Value) (w : World) (g : Nat)
    (hp : tmps.getD p undef = .pointer (some ⟨g, 0, none⟩)) (v : Value) (hq : tmps.getD q undef = v) {x : Value} {d : TypeDesc} (hc : w.cell? ⟨g, 0, none⟩ = some x)
    (hu : P.underlying ty = some d) (hd : d.isRow = false) : (results fn tmps).run P w = .ok (.tuple #[v, x]) w := by
  have hp' : tmps[p]?.getD undef = .pointer (some ⟨g, 0, none⟩) := by simpa using hp
  have hq' : tmps[q]?.getD undef = v := by simpa using hq
  simp [results, h, hp', hq', asAddr, run_loadVar_one w _ ty x d hc hu hd]
set_option maxRecDepth 100000 in
theorem i_moved_no (E V K : Nat) (er : Nat) (u : FrameMode) (w : World) (hE : Blk w E 24 [.int .i64 (er : Int)]) (h0 : er ≠ 0) :
    CallsD Try.prog 26 #[.pointer (some ⟨E, 0, none⟩), .pointer (some ⟨V, 0, none⟩), .pointer (some ⟨K, 0, none⟩)] u w fun e u' w' => u' = u ∧ (e = .returned (.tuple #[]) ∧ w' = w) := by
  have c1 := hE.cell 0
  simp only [List.getElem?_cons_zero] at c1
  have g1 : ((er : Int) == 0) = false := by simp; omega
  clear hE
  go_enter_d Try.func26, Try.ntmps26
  go_wp2
  go_end0
  exact ⟨rfl, rfl⟩
set_option maxRecDepth 100000 in
theorem i_moved (E V K R : Nat) (s : ByteArray) (p k : Nat) (u : FrameMode) (w : World) (hE : Blk w E 24 [.int .i64 0]) (hV : Blk w V 34 [.pointer (some ⟨R, 0, none⟩)]) (hK : Blk w K 3 [.int .i64 (k : Int)])
    (hR : Blk w R 58 (rdr s p)) (hp : p + k ≤ 8000000000) :
    CallsD Try.prog 26 #[.pointer (some ⟨E, 0, none⟩), .pointer (some ⟨V, 0, none⟩), .pointer (some ⟨K, 0, none⟩)] u w fun e u' w' => u' = u ∧ (e = .returned (.tuple #[]) ∧ ∃ n, w' = (w.drewN n).setCell ⟨R, 1, none⟩ (.int .i64 ((p + k : Nat) : Int))) := by
  have c1 := hE.cell 0
  have c2 := hV.cell 0
  have c3 := hK.cell 0
  have c4 := hR.cell 1
  have f4 := hR.free 1
  simp only [rdr, List.getElem?_cons_zero, List.getElem?_cons_succ] at c1 c2 c3 c4
  have e1 : IntKind.i64.wrap ((p : Int) + (k : Int)) = ((p + k : Nat) : Int) := by rw [IntWalk.i64_in _ (by omega)]; simp
  clear hE hV hK hR
  generalize p + k = pk at *
  go_enter_d Try.func26, Try.ntmps26
  go_wp2
  refine region_drew_tail 8 mixed (by kernel_rfl) ?_
  simp only [List.take_succ_cons, List.take_zero, List.drop_succ_cons, List.drop_zero]
  repeat (first | go_big_quiet_step (fail) | quiet_step (fail))
  refine wpQuiet_nil ?_
  rintro _ ⟨nq, rfl⟩
  go_wp2
  go_end0
  first | exact ⟨nq, rfl⟩ | exact ⟨rfl, nq, rfl⟩
theorem mkf (fn : Fn) (first cap : Array Value) (w : World) : (Instr.makeFunc fn first cap).run Try.prog w = .ok (.func fn first cap) w := rfl
set_option maxRecDepth 100000 in
set_option maxHeartbeats 400000 in
theorem i_Take_arg (R : Nat) (x : Int) (w : World) (hx : x < 0 ∨ 24 < x) :
    Calls Try.prog 15 #[.pointer (some ⟨R, 0, none⟩), .int .i64 x] w fun e w' => e = .returned (.tuple #[.int .u32 0, .int .i64 1]) ∧ Below w.heap.size w w' := by
  have hmf := mkf
  have hW := fun w => i_width_no x w hx
  have HW := Lib.hid hW
  clear hW hx
  have K0 := Blk.newAt ((w.alloc (.cells #[.pointer (some ⟨R, 0, none⟩)] 34)).alloc (.cells #[.int .i64 x] 3)) (w.heap.size + 1 + 1) (by simp) 24 (c := #[.int .i64 1]) [.int .i64 ((1 : Nat) : Int)] rfl
  have Kb := (((Below.refl _ w).alloc (Nat.le_refl _) (.cells #[.pointer (some ⟨R, 0, none⟩)] 34)).alloc (by simp) (.cells #[.int .i64 x] 3)).alloc (by simp; omega) (.cells #[.int .i64 1] 24)
  have K0 := Lib.hid K0
  have Kb := Lib.hid Kb
  go_enter_defers Try.func15, Try.ntmps15
  go_wp2_with (go_at_call 27; (with_reducible refine (HW.out _).mono ?_); rintro e w9 ⟨rfl, rfl⟩)
  refine leaves_cons (f := 26) (args := #[.pointer (some ⟨w.heap.size + 1 + 1, 0, none⟩), .pointer (some ⟨w.heap.size, 0, none⟩), .pointer (some ⟨w.heap.size + 1, 0, none⟩)]) (by simp) (by simp [go_sem]) ?_
  refine (i_moved_no _ _ _ 1 .returning _ K0.out (by decide)).mono ?_
  rintro e u' w'' ⟨rfl, rfl, rfl⟩
  exact ⟨_, results_tmp_cell rfl _ _ _ rfl _ rfl (K0.out.cell 0) Try.underlying24 rfl, rfl, Kb.out⟩
set_option maxRecDepth 100000 in
set_option maxHeartbeats 400000 in
theorem i_Take_short (R : Nat) (s : ByteArray) (p k : Nat) (w : World) (hR : Blk w R 58 (rdr s p)) (hk : k ≤ 24) (hp : p ≤ 8 * s.size) (hs : s.size ≤ 1000000000) (hlt : 8 * s.size - p < k) :
    Calls Try.prog 15 #[.pointer (some ⟨R, 0, none⟩), .int .i64 (k : Int)] w fun e w' => e = .returned (.tuple #[.int .u32 0, .int .i64 40]) ∧ Below w.heap.size w w' := by
  have hmf := mkf
  have hW := fun w => i_width_yes k w hk
  have HW := Lib.hid hW
  have KR := ((hR.alloc (.cells #[.pointer (some ⟨R, 0, none⟩)] 34)).alloc (.cells #[.int .i64 (k : Int)] 3)).alloc (.cells #[.int .i64 0] 24)
  have KV := ((Blk.new' w 34 (c := #[.pointer (some ⟨R, 0, none⟩)]) [.pointer (some ⟨R, 0, none⟩)] rfl).alloc (.cells #[.int .i64 (k : Int)] 3)).alloc (.cells #[.int .i64 0] 24)
  have KK := (Blk.newAt (w.alloc (.cells #[.pointer (some ⟨R, 0, none⟩)] 34)) (w.heap.size + 1) (by simp) 3 (c := #[.int .i64 (k : Int)]) [.int .i64 (k : Int)] rfl).alloc (.cells #[.int .i64 0] 24)
  have KE := Blk.newAt ((w.alloc (.cells #[.pointer (some ⟨R, 0, none⟩)] 34)).alloc (.cells #[.int .i64 (k : Int)] 3)) (w.heap.size + 1 + 1) (by simp) 24 (c := #[.int .i64 0]) [.int .i64 0] rfl
  have Kb := (((Below.refl _ w).alloc (Nat.le_refl _) (.cells #[.pointer (some ⟨R, 0, none⟩)] 34)).alloc (by simp) (.cells #[.int .i64 (k : Int)] 3)).alloc (by simp; omega) (.cells #[.int .i64 0] 24)
  clear hW hR hk
  go_enter_defers Try.func15, Try.ntmps15
  go_wp2_with (go_at_call 27; (with_reducible refine (HW.out _).mono ?_); rintro e w9 ⟨rfl, rfl⟩)
  generalize World.alloc (World.alloc (World.alloc w _) _) _ = w3 at *
  have hL := fun n => i_Left R s p (w3.drewN n) (KR.drewN n) hp hs
  generalize 8 * s.size - p = L at *
  have d1 : decide ((L : Int) < (k : Int)) = true := by simp; omega
  have d2 : decide (L < k) = true := by simp; omega
  have HL := Lib.hid hL
  have c1 := KV.cell 0
  have c2 := KK.cell 0
  simp only [List.getElem?_cons_zero] at c1 c2
  clear hL hlt hp hs
  go_quiet ((go_at_call 17; exact Calls.quiet_of (HL.out _)))
  have KE2 := (KE.drewN nq).set 0 (.int .i64 ((40 : Nat) : Int))
  have Kb2 := (below_drewN Kb nq).setCell (p := ⟨w.heap.size + 1 + 1, 0, none⟩) (show w.heap.size ≤ w.heap.size + 1 + 1 by omega) (.int .i64 ((40 : Nat) : Int))
  have c3 := KE.cell 0
  have z3 := KE.free 0
  simp only [List.getElem?_cons_zero] at c3
  go_wp2
  refine leaves_cons (f := 26) (args := #[.pointer (some ⟨w.heap.size + 1 + 1, 0, none⟩), .pointer (some ⟨w.heap.size, 0, none⟩), .pointer (some ⟨w.heap.size + 1, 0, none⟩)]) (by simp) (by simp [go_sem]) ?_
  refine (i_moved_no _ _ _ 40 .returning _ KE2 (by decide)).mono ?_
  rintro e u' w'' ⟨rfl, rfl, rfl⟩
  exact ⟨_, results_tmp_cell rfl _ _ _ rfl _ rfl (KE2.cell 0) Try.underlying24 rfl, rfl, Kb2⟩
set_option maxRecDepth 100000 in
set_option maxHeartbeats 1000000 in
theorem i_Take_ok (R : Nat) (s : ByteArray) (p k : Nat) (w : World) (hR : Blk w R 58 (rdr s p)) (hk : k ≤ 24) (hp : p ≤ 8 * s.size) (hs : s.size ≤ 1000000000) (hlt : p + k ≤ 8 * s.size) :
    Calls Try.prog 15 #[.pointer (some ⟨R, 0, none⟩), .int .i64 (k : Int)] w fun e w' => e = .returned (.tuple #[.int .u32 ((numB (sl s) p k : Nat) : Int), .int .i64 0]) ∧ Turned w w' R 58 (rdr s (p + k)) := by
  have hmf := mkf
  have hW := fun w => i_width_yes k w hk
  have HW := Lib.hid hW
  have KR := ((hR.alloc (.cells #[.pointer (some ⟨R, 0, none⟩)] 34)).alloc (.cells #[.int .i64 (k : Int)] 3)).alloc (.cells #[.int .i64 0] 24)
  have KV := ((Blk.new' w 34 (c := #[.pointer (some ⟨R, 0, none⟩)]) [.pointer (some ⟨R, 0, none⟩)] rfl).alloc (.cells #[.int .i64 (k : Int)] 3)).alloc (.cells #[.int .i64 0] 24)
  have KK := (Blk.newAt (w.alloc (.cells #[.pointer (some ⟨R, 0, none⟩)] 34)) (w.heap.size + 1) (by simp) 3 (c := #[.int .i64 (k : Int)]) [.int .i64 (k : Int)] rfl).alloc (.cells #[.int .i64 0] 24)
  have KE := Blk.newAt ((w.alloc (.cells #[.pointer (some ⟨R, 0, none⟩)] 34)).alloc (.cells #[.int .i64 (k : Int)] 3)) (w.heap.size + 1 + 1) (by simp) 24 (c := #[.int .i64 0]) [.int .i64 0] rfl
  have Kb := (((Below.refl _ w).alloc (Nat.le_refl _) (.cells #[.pointer (some ⟨R, 0, none⟩)] 34)).alloc (by simp) (.cells #[.int .i64 (k : Int)] 3)).alloc (by simp; omega) (.cells #[.int .i64 0] 24)
  have hR0 := hR
  clear hW hR
  go_enter_defers Try.func15, Try.ntmps15
  go_wp2_with (go_at_call 27; (with_reducible refine (HW.out _).mono ?_); rintro e w9 ⟨rfl, rfl⟩)
  generalize World.alloc (World.alloc (World.alloc w _) _) _ = w3 at *
  have hL := fun n => i_Left R s p (w3.drewN n) (KR.drewN n) hp hs
  have d1 : decide (((8 * s.size - p : Nat) : Int) < (k : Int)) = false := by simp; omega
  have d2 : decide (8 * s.size - p < k) = false := by simp; omega
  generalize 8 * s.size - p = L at *
  have HL := Lib.hid hL
  have c1 := KV.cell 0
  have c2 := KK.cell 0
  simp only [List.getElem?_cons_zero] at c1 c2
  clear hL
  go_quiet ((go_at_call 17; exact Calls.quiet_of (HL.out _)))
  have KR2 := KR.drewN nq
  have KE2 := KE.drewN nq
  have KV2 := KV.drewN nq
  have KK2 := KK.drewN nq
  have Kb2 := below_drewN Kb nq
  have c3 := KK2.cell 0
  simp only [List.getElem?_cons_zero] at c3
  clear KR KE KV KK Kb c1 c2 d1 d2 HL
  generalize World.drewN w3 nq = w4 at *
  go_wp2
  clear c3
  go_loopw [4, 16] (fun u i wr => ∃ j : Nat, j ≤ k ∧ i = .int .i64 (j : Int) ∧ u = .int .u32 ((numB (sl s) p j : Nat) : Int) ∧ Blk wr R 58 (rdr s p) ∧ Blk wr (w.heap.size + 1 + 1) 24 [.int .i64 0] ∧ Blk wr w.heap.size 34 [.pointer (some ⟨R, 0, none⟩)] ∧ Blk wr (w.heap.size + 1) 3 [.int .i64 (k : Int)] ∧ Below w.heap.size w wr) (fun _ i _ => k - (intOf i).toNat)
  case atStart => exact ⟨0, by omega, rfl, rfl, KR2, KE2, KV2, KK2, Kb2⟩
  case round =>
    obtain ⟨j, hj, rfl, rfl, gR, gE, gV, gK, gb⟩ := hrel
    clear KR2 KE2 KV2 KK2 Kb2
    by_cases hjk : j < k
    · have d1 : (j : Int) < (k : Int) := by omega
      have hB := fun n => i_bit R s p (p + j) (wr.drewN n) (gR.drewN n) (by omega) hs
      have hor0 := numB_or (sl s) p j
      have hz2 := bitAt_lt (sl s) (p + j)
      have hn1 := numB_lt (sl s) p j
      have hpw : 2 ^ j ≤ 2 ^ 23 := Nat.pow_le_pow_right (by decide) (by omega)
      have c1 := gV.cell 0
      have c2 := gR.cell 1
      simp only [rdr, List.getElem?_cons_zero, List.getElem?_cons_succ] at c1 c2
      have eqi : ((p + j : Nat) : Int) = (p : Int) + (j : Int) := by simp
      have ew : IntKind.i64.wrap ((p : Int) + (j : Int)) = (p : Int) + (j : Int) := IntWalk.i64_in _ (by omega)
      rw [eqi] at hB
      generalize bitAt (sl s) (p + j) = z at *
      generalize ha1 : numB (sl s) p (j + 1) = a1 at *
      have HA1 := Lib.hid ha1
      clear ha1
      generalize numB (sl s) p j = a0 at *
      obtain ⟨sh, hsh⟩ : ∃ sh, z * 2 ^ j = sh := ⟨_, rfl⟩
      have hshl : sh ≤ 2 ^ 23 := by
        rw [← hsh]
        have := Nat.mul_le_mul (show z ≤ 1 by omega) hpw
        omega
      have hs1 : (z : Int) * 2 ^ j = (sh : Int) := by rw [← hsh]; simp
      have hs2 : IntKind.u32.wrap (sh : Int) = (sh : Int) := wraps_u32 _ (by omega) (by omega)
      have hor : bits .or .u32 (a0 : Int) (sh : Int) = (a1 : Int) := by
        rw [← hor0, hsh]; exact or_u32 _ _ (by omega) (by omega)
      have i2 : (j : Int).toNat = j := by omega
      have i3 : (0 : Int) ≤ (j : Int) := by omega
      have HB := Lib.hid hB
      clear hB hor0 hn1 hpw hshl hsh eqi
      go_wp2_with fail
      go_quiet ((go_at_call 28; exact Calls.quiet_of_same ((HB.out _).mono fun _ _ h => ⟨h.1, h.2.symm⟩)))
      go_wp2
      go_roundw
      case rel => exact ⟨j + 1, by omega, by go_num, by rw [HA1.out], gR.drewN nq, gE.drewN nq, gV.drewN nq, gK.drewN nq, below_drewN gb nq⟩
      case measure => simp [intOf]; omega
    · obtain rfl : j = k := by omega
      have KE2 := gE.set 0 (.int .i64 0)
      have KR2 := gR.other (a := ⟨w.heap.size + 1 + 1, 0, none⟩) (show w.heap.size + 1 + 1 ≠ R by have := hR0.lt; omega) (.int .i64 0)
      have KV2 := gV.other (a := ⟨w.heap.size + 1 + 1, 0, none⟩) (show w.heap.size + 1 + 1 ≠ w.heap.size by omega) (.int .i64 0)
      have KK2 := gK.other (a := ⟨w.heap.size + 1 + 1, 0, none⟩) (show w.heap.size + 1 + 1 ≠ w.heap.size + 1 by omega) (.int .i64 0)
      have Kb2 := gb.setCell (p := ⟨w.heap.size + 1 + 1, 0, none⟩) (show w.heap.size ≤ w.heap.size + 1 + 1 by omega) (.int .i64 0)
      have c1 := gE.cell 0
      have z1 := gE.free 0
      simp only [List.getElem?_cons_zero] at c1
      go_wp2
      refine leaves_cons (f := 26) (args := #[.pointer (some ⟨w.heap.size + 1 + 1, 0, none⟩), .pointer (some ⟨w.heap.size, 0, none⟩), .pointer (some ⟨w.heap.size + 1, 0, none⟩)]) (by simp) (by simp [go_sem]) ?_
      refine (i_moved _ _ _ R s p j .returning _ KE2 KV2 KK2 KR2 (by omega)).mono ?_
      rintro e u' w'' ⟨rfl, rfl, nq, rfl⟩
      have hne : w.heap.size + 1 + 1 ≠ R := by have := hR0.lt; omega
      exact ⟨_, results_tmp_cell rfl _ _ _ rfl _ rfl (((KE2.drewN nq).other (a := ⟨R, 1, none⟩) (show R ≠ w.heap.size + 1 + 1 by omega) _).cell 0) Try.underlying24 rfl, rfl, Turned.set (below_drewN Kb2 nq) hR0 1 _⟩
/-- whatever width -/
theorem i_Take (R : Nat) (s : ByteArray) (p : Nat) (x : Int) (w : World) (hR : Blk w R 58 (rdr s p)) (hp : p ≤ 8 * s.size) (hs : s.size ≤ 1000000000) (n er p' : Nat) (h : takeP (sl s) p x = (n, er, p')) :
    Calls Try.prog 15 #[.pointer (some ⟨R, 0, none⟩), .int .i64 x] w fun e w' => e = .returned (.tuple #[.int .u32 (n : Int), .int .i64 (er : Int)]) ∧ Turned w w' R 58 (rdr s p') := by
  unfold takeP at h
  split at h
  · rename_i hx
    cases h
    exact (i_Take_arg R x w hx).mono fun e w' ⟨h1, h2⟩ => ⟨h1, Turned.of_below h2 hR⟩
  · rename_i hx
    obtain ⟨k, rfl⟩ : ∃ k : Nat, x = (k : Int) := ⟨x.toNat, by omega⟩
    rw [sl_len] at h
    split at h
    · rename_i hk
      cases h
      exact (i_Take_short R s p k w hR (by omega) hp hs (by simpa using hk)).mono fun e w' ⟨h1, h2⟩ => ⟨h1, Turned.of_below h2 hR⟩
    · rename_i hk
      simp at hk
      cases h
      exact i_Take_ok R s p k w hR (by omega) hp hs (by omega)
end Go.Proofs.Ytpjfafefgmjmfaa
