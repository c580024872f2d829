/- Walks of digest's Mac and of its mask. -/
import Derived.Test.YtadppbjchacjiaaDHexW
import Derived.Lib.BufferWrite
namespace Go.Proofs.Ytadppbjchacjiaa
open Go.RowKit
set_option linter.unusedVariables false

def padK (key : ByteArray) : List Int := is key ++ zer (64 - key.size)
theorem padK_len (key : ByteArray) (h : key.size ≤ 64) : (padK key).length = 64 := by simp [padK, is_length, zer]; omega
def xorTo (m : Int) (l : List Int) : Nat → List Int
  | 0 => l
  | k + 1 => (xorTo m l k).set k (bits .xor .u8 ((xorTo m l k).getD k 0) m)
theorem xorTo_len (m : Int) (l : List Int) : ∀ k, (xorTo m l k).length = l.length
  | 0 => rfl
  | k + 1 => by simp [xorTo, xorTo_len m l k]
def maskL (key : ByteArray) (m : Int) : List Int := xorTo m (padK key) 64

theorem byteCells_is (s : ByteArray) : Lib.byteCells s.data.toList = ints .u8 (is s) := by
  simp [Lib.byteCells, ints, is, Function.comp_def]

section
variable {P : Program} {ops : Array Oper} {rest : List Oper} {o : Oper} {a : Act} {w : World} {Q : Exit → Act → World → Prop}
theorem wpList_copy_string_blk (hgd : o.guard = none) (d s : Operand) (dT sT elem : TypeId) (ho : o.op = .call { callee := .builtin .copy, args := #[d, s], argTypes := #[dT, sT] })
    (g dLen dCap : Nat) (hd : a.eval d = .slice (some ⟨g, 0, none⟩) dLen dCap) (t : ByteArray) (hx : a.eval s = .string t) {ty : TypeId} {old : List Int} (hg : Blk w g ty (ints .u8 old))
    (hu : P.underlying dT = some (.slice elem)) (hs : (P.info? elem).map (·.size) = some 1) (hle : t.size ≤ dLen) (hfit : t.size ≤ old.length)
    (h : wpList P ops Q rest (a.put o.dst (goInt t.size)) (w.setRow g (ints .u8 (is t ++ old.drop t.size)).toArray)) : wpList P ops Q (o :: rest) a w :=
  wpList_plain hgd fun _ hK => by
    have hr := Lib.run_copy_row_string (P := P) w dT sT o.type elem g 0 dLen dCap t (ints .u8 old).toArray ty hu hs hg hle (by simpa [ints_length] using hfit)
    have e : (List.take 0 (ints .u8 old).toArray.toList ++ Lib.byteCells t.data.toList ++ List.drop (0 + t.size) (ints .u8 old).toArray.toList).toArray = (ints .u8 (is t ++ old.drop t.size)).toArray := by
      rw [byteCells_is]; simp [ints]
    rw [e] at hr
    unfold Oper.wp
    simp [execOp, ho, resolve, invoke, builtin, hd, hx, hr, Result.andThen]
    exact hK _ _ h
end

set_option maxHeartbeats 1000000 in
set_option maxRecDepth 100000 in
theorem d_mask (kb : Nat) (key : ByteArray) (m : Int) (w : World) (hk : key.size ≤ 64) (hb : Blk w kb 9 [.string key]) :
    Calls Try.prog 27 #[.int .u8 m, .pointer (some ⟨kb, 0, none⟩)] w fun e w' => e = .returned (.string (bs (maskL key m))) ∧ Below w.heap.size w w' := by
  have hlt := hb.lt
  have hc := hb.cell 0
  have hc0 : w.cell? ⟨kb, 0, none⟩ = some (.string key) := by rw [hc]; rfl
  clear hc
  go_enter Try.func27, Try.ntmps27
  go_wp2
  generalize hw2 : World.alloc w _ = w2
  have hb2 : Below w.heap.size w w2 := by rw [← hw2]; exact (Below.refl _ _).alloc (Nat.le_refl _) _
  have hk1 : Blk w2 w.heap.size 50 (ints .u8 (zer 64)) := by rw [← hw2]; exact Blk.new' _ _ _ rfl
  have hc2 : w2.cell? ⟨kb, 0, none⟩ = some (.string key) := by rw [hb2.cell hlt]; exact hc0
  clear hw2 hc0 hb
  have hlen := padK_len key hk
  have hpad : is key ++ (zer 64).drop key.size = padK key := by unfold padK zer; rw [List.drop_replicate]
  refine region_drew_tail 2 mixed (by kernel_rfl) ?_
  simp only [List.take_succ_cons, List.take_zero, List.drop_succ_cons, List.drop_zero]
  repeat (first | go_big_quiet_step (fail) | quiet_step (fail))
  refine wpQuiet_nil ?_
  rintro _ ⟨nq, rfl⟩
  have hk3 := hk1.drewN nq
  have hb3 := below_drewN hb2 nq
  generalize w2.drewN nq = w3 at *
  clear hc2
  go_wp2_with (first | (refine wpList_copy_string_blk rfl _ _ 36 9 5 rfl w.heap.size 64 64 rfl key rfl hk3 Try.underlying36 size_u8 hk (by simp [zer]; exact hk) ?_))
  have hk4 := hk3.row (ints .u8 (padK key)) (by rw [ints_length, hlen]; rfl)
  have hb4 := below_setRow hb3 (Nat.le_refl _) (ints .u8 (padK key)).toArray
  generalize World.setRow _ _ _ = w4 at *
  have HP := Lib.hid hlen
  clear hpad hlen
  go_loopw [5, 9] (fun _ i wr => ∃ k : Nat, k ≤ 64 ∧ i = .int .i64 k ∧ Blk wr w.heap.size 50 (ints .u8 (xorTo m (padK key) k)) ∧ Below w.heap.size w wr) (fun _ i _ => 64 - (intOf i).toNat)
  case atStart => exact ⟨0, by omega, rfl, hk4, hb4⟩
  case round =>
    obtain ⟨k, hkk, rfl, hz, hbel⟩ := hrel
    have hl := xorTo_len m (padK key) k
    rw [HP.out] at hl
    by_cases hlt2 : k < 64
    · have hstep : xorTo m (padK key) (k + 1) = (xorTo m (padK key) k).set k (bits .xor .u8 ((xorTo m (padK key) k).getD k 0) m) := rfl
      have Hs := Lib.hid hstep
      clear hstep
      have hc := hz.int (j := k) (by omega)
      have hfr := hz.free k
      have hk64 : (k : Int) < 64 := by omega
      generalize xorTo m (padK key) k = l at *
      clear hl
      go_wp2
      go_roundw
      case rel =>
        refine ⟨k + 1, by omega, by go_num, ?_, hbel.setCell (Nat.le_refl _) _⟩
        rw [Hs.out]
        have := hz.setInt k (bits .xor .u8 (l.getD k 0) m)
        simp only [List.getD_eq_getElem?_getD] at this ⊢
        exact this
      case measure => simp [intOf]; omega
    · obtain rfl : k = 64 := by omega
      have hz' : Blk wr w.heap.size 50 (ints .u8 (maskL key m)) := hz
      have hrg : wr.rangeAt w.heap.size 0 (ints .u8 (maskL key m)) :=
        Blk.range (x := []) (y := ints .u8 (maskL key m)) (z := []) (by simpa using hz')
      go_wp2_with (first | (refine wpList_bytes_string rfl 36 9 5 _ rfl w.heap.size 64 64 (maskL key m) rfl Try.underlying36 Try.underlying5 Try.underlying9 hrg hl.symm ?_))
      go_ret
      exact ⟨rfl, hbel⟩

section
variable {P : Program} {C : World → Prop} {zs : Array Oper} {Q : Act → Prop} {op : Oper} {rest : List Oper} {a : Act}
theorem wpQuiet_run (hgd : op.guard = none) (v : Value) (hr : ∀ w', C w' → (execOp a.eval op).run P w' = .ok (.value v) w') (h : wpQuiet P zs C Q rest (a.put op.dst v)) : wpQuiet P zs C Q (op :: rest) a := by
  unfold wpQuiet
  rw [if_pos (wanted_free hgd [] zs a.tmps)]
  refine ⟨v, fun w' hw' => ?_, h⟩
  unfold Oper.quietAt
  rw [hr w' hw']
  exact ⟨rfl, rfl⟩
theorem wpQuiet_bytes_string (hgd : op.guard = none) (src dst e : TypeId) (x : Operand) (ho : op.op = .convert src dst x) (b n cap : Nat) (l : List Int)
    (hx : a.eval x = .slice (some ⟨b, 0, none⟩) n cap) (hs : P.underlying src = some (.slice e)) (he : P.underlying e = some (.int .u8)) (hd : P.underlying dst = some .string)
    (hc : ∀ w', C w' → w'.rangeAt b 0 (ints .u8 l)) (hn : n = l.length) (h : wpQuiet P zs C Q rest (a.put op.dst (.string (bs l)))) : wpQuiet P zs C Q (op :: rest) a :=
  wpQuiet_run hgd (.string (bs l)) (fun w' hw' => by
    unfold execOp
    simp only [ho, hx, Sem.run_bind, run_bytes_string (P := P) (w := w') src dst e b n cap l hs he hd (hc w' hw') hn, Result.andThen_ok]
    rfl) h
end

def sumL (s : ByteArray) : List Int := shaSumOf kTable startL s
theorem sumL_len (s : ByteArray) : (sumL s).length = 32 := hashL_len _
def keyOf (key : ByteArray) : ByteArray := if key.size ≤ 64 then key else bs (sumL key)
theorem keyOf_size (key : ByteArray) : (keyOf key).size ≤ 64 := by
  unfold keyOf; split
  · assumption
  · rw [bs_size, sumL_len]; omega
def innerL (k s : ByteArray) : List Int := sumL (bs (maskL k 54) ++ s)
def macOf (k s : ByteArray) : List Int := sumL (bs (maskL k 92) ++ bs (innerL k s))
def macL (key s : ByteArray) : List Int := macOf (keyOf key) s
theorem maskL_len (k : ByteArray) (h : k.size ≤ 64) (m : Int) : (maskL k m).length = 64 := by rw [maskL, xorTo_len, padK_len k h]

set_option maxHeartbeats 2000000 in
set_option maxRecDepth 100000 in
theorem d_Mac_short (key s : ByteArray) (w : World) (hk : key.size ≤ 64) (hs : s.size ≤ 549755813888) :
    Calls Try.prog 11 #[.string key, .string s] w fun e w' => e = .returned (.agg (ints .u8 (macOf key s)).toArray) ∧ Below w.heap.size w w' := by
  have hm := fun m => maskL_len key hk m
  have hin : ∀ w, Calls Try.prog 9 #[.string (bs (maskL key 54) ++ s)] w fun e w' => e = .returned (.agg (ints .u8 (innerL key s)).toArray) ∧ Below w.heap.size w w' := fun w => d_Sum _ w (by rw [ByteArray.size_append, bs_size, hm]; omega)
  have hou : ∀ w, Calls Try.prog 9 #[.string (bs (maskL key 92) ++ bs (innerL key s))] w fun e w' => e = .returned (.agg (ints .u8 (macOf key s)).toArray) ∧ Below w.heap.size w w' := fun w => d_Sum _ w (by rw [ByteArray.size_append, bs_size, hm, bs_size, innerL, sumL_len]; omega)
  have hil : (innerL key s).length = 32 := sumL_len _
  have hol : (macOf key s).length = 32 := sumL_len _
  have hcat1 := fun w' => run_string_add_sum (P := Try.prog) w' (bs (maskL key 54)) s (by rw [bs_size, hm]; omega)
  have hcat2 := fun w' => run_string_add_sum (P := Try.prog) w' (bs (maskL key 92)) (bs (innerL key s)) (by rw [bs_size, hm, bs_size, hil]; omega)
  have HI := Lib.hid hin
  have HO := Lib.hid hou
  have HIL := Lib.hid hil
  have HOL := Lib.hid hol
  generalize innerL key s = I at *
  generalize macOf key s = O at *
  have HM := Lib.hid hm
  have hkz : (key.size : Int) ≤ 64 := by omega
  clear hin hou hil hol hm
  have hkb : ∀ o, Blk ((w.alloc (.cells #[.string key] 9)).alloc o) w.heap.size 9 [.string key] := fun o => (Blk.new' w 9 [.string key] rfl).alloc o
  go_enter Try.func11, Try.ntmps11
  go_wp2_with fail
  have hbel1 : ∀ o, Below w.heap.size w ((w.alloc (.cells #[.string key] 9)).alloc o) := fun o => ((Below.refl _ _).alloc (Nat.le_refl _) _).alloc (by simp) _
  have hres1 : Blk ((w.alloc (.cells #[.string key] 9)).alloc (.cells (ints .u8 (zer 32)).toArray 23)) (w.heap.size + 1) 23 (ints .u8 (zer 32)) := Blk.new2 _ _ _ _ rfl
  have hk1 := hkb (.cells (ints .u8 (zer 32)).toArray 23)
  have hb1 := hbel1 (.cells (ints .u8 (zer 32)).toArray 23)
  have ez : (.cells (ints .u8 (zer 32)).toArray 23 : Obj) = .cells #[.int .u8 0, .int .u8 0, .int .u8 0, .int .u8 0, .int .u8 0, .int .u8 0, .int .u8 0, .int .u8 0, .int .u8 0, .int .u8 0, .int .u8 0, .int .u8 0, .int .u8 0, .int .u8 0, .int .u8 0, .int .u8 0, .int .u8 0, .int .u8 0, .int .u8 0, .int .u8 0, .int .u8 0, .int .u8 0, .int .u8 0, .int .u8 0, .int .u8 0, .int .u8 0, .int .u8 0, .int .u8 0, .int .u8 0, .int .u8 0, .int .u8 0, .int .u8 0] 23 := rfl
  rw [ez] at hres1 hk1 hb1
  generalize World.alloc (World.alloc w _) _ = w1 at *
  clear ez hkb hbel1
  refine (d_mask w.heap.size key 54 _ hk hk1).mono ?_
  rintro e w2 ⟨rfl, hb2⟩
  have hk2 := hk1.below hb2 hk1.lt
  have hr2 := hres1.below hb2 hres1.lt
  have hbel2 := hb1.trans (hb2.mono hb1.size)
  go_wp2_with (first | (go_at_call 9; refine (HI.out _).mono ?_; rintro e w3 ⟨rfl, hb3⟩) | (refine wpList_store_blk rfl 23 _ _ rfl w3.heap.size (ints .u8 I) rfl rfl (Blk.new' w3 23 (ints .u8 (zer 32)) rfl) (by rw [size_hash, ints_length, HIL.out]) (by rw [ints_length, ints_length, HIL.out]; rfl) (ints_one _ _) ?_))
  have hsz3 := hb3.size
  have hI4 : Blk ((w3.alloc (.cells #[.int .u8 0, .int .u8 0, .int .u8 0, .int .u8 0, .int .u8 0, .int .u8 0, .int .u8 0, .int .u8 0, .int .u8 0, .int .u8 0, .int .u8 0, .int .u8 0, .int .u8 0, .int .u8 0, .int .u8 0, .int .u8 0, .int .u8 0, .int .u8 0, .int .u8 0, .int .u8 0, .int .u8 0, .int .u8 0, .int .u8 0, .int .u8 0, .int .u8 0, .int .u8 0, .int .u8 0, .int .u8 0, .int .u8 0, .int .u8 0, .int .u8 0, .int .u8 0] 23)).setRow w3.heap.size (ints .u8 I).toArray) w3.heap.size 23 (ints .u8 I) := (Blk.new' w3 23 (ints .u8 (zer 32)) rfl).row _ (by rw [ints_length, ints_length, HIL.out]; rfl)
  have hk4 : Blk ((w3.alloc (.cells #[.int .u8 0, .int .u8 0, .int .u8 0, .int .u8 0, .int .u8 0, .int .u8 0, .int .u8 0, .int .u8 0, .int .u8 0, .int .u8 0, .int .u8 0, .int .u8 0, .int .u8 0, .int .u8 0, .int .u8 0, .int .u8 0, .int .u8 0, .int .u8 0, .int .u8 0, .int .u8 0, .int .u8 0, .int .u8 0, .int .u8 0, .int .u8 0, .int .u8 0, .int .u8 0, .int .u8 0, .int .u8 0, .int .u8 0, .int .u8 0, .int .u8 0, .int .u8 0] 23)).setRow w3.heap.size (ints .u8 I).toArray) w.heap.size 9 [.string key] := ((hk2.below hb3 hk2.lt).alloc _).rowOther (by have := hk2.lt; omega) _
  have hr4 : Blk ((w3.alloc (.cells #[.int .u8 0, .int .u8 0, .int .u8 0, .int .u8 0, .int .u8 0, .int .u8 0, .int .u8 0, .int .u8 0, .int .u8 0, .int .u8 0, .int .u8 0, .int .u8 0, .int .u8 0, .int .u8 0, .int .u8 0, .int .u8 0, .int .u8 0, .int .u8 0, .int .u8 0, .int .u8 0, .int .u8 0, .int .u8 0, .int .u8 0, .int .u8 0, .int .u8 0, .int .u8 0, .int .u8 0, .int .u8 0, .int .u8 0, .int .u8 0, .int .u8 0, .int .u8 0] 23)).setRow w3.heap.size (ints .u8 I).toArray) (w.heap.size + 1) 23 (ints .u8 (zer 32)) := ((hr2.below hb3 hr2.lt).alloc _).rowOther (by have := hr2.lt; omega) _
  have hbel3 : Below w.heap.size w w3 := hbel2.trans (hb3.mono hbel2.size)
  have hbel4 : Below w.heap.size w ((w3.alloc (.cells #[.int .u8 0, .int .u8 0, .int .u8 0, .int .u8 0, .int .u8 0, .int .u8 0, .int .u8 0, .int .u8 0, .int .u8 0, .int .u8 0, .int .u8 0, .int .u8 0, .int .u8 0, .int .u8 0, .int .u8 0, .int .u8 0, .int .u8 0, .int .u8 0, .int .u8 0, .int .u8 0, .int .u8 0, .int .u8 0, .int .u8 0, .int .u8 0, .int .u8 0, .int .u8 0, .int .u8 0, .int .u8 0, .int .u8 0, .int .u8 0, .int .u8 0, .int .u8 0] 23)).setRow w3.heap.size (ints .u8 I).toArray) := below_setRow (hbel3.alloc hbel3.size _) hbel3.size _
  generalize World.setRow _ _ _ = w4 at *
  generalize w3.heap.size = B at *
  have hmask : ∀ wx, NewBut w4 wx → Calls Try.prog 27 #[.int .u8 92, .pointer (some ⟨w.heap.size, 0, none⟩)] wx fun e w' => e = .returned (.string (bs (maskL key 92))) ∧ NewBut w4 w' := fun wx hx =>
    (d_mask w.heap.size key 92 wx hk (hk4.below hx hk4.lt)).mono fun e w' ⟨he, hb⟩ => ⟨he, hx.trans (hb.mono hx.size)⟩
  have HMask := Lib.hid hmask
  clear hmask
  have hIr : ∀ wx, NewBut w4 wx → wx.rangeAt B 0 (ints .u8 I) := fun wx hx => Blk.range (x := []) (y := ints .u8 I) (z := []) (by simpa using hI4.below hx hI4.lt)
  have HIr := Lib.hid hIr
  clear hIr
  refine region_quiet_tail (C := NewBut w4) 5 mixed (by kernel_rfl) (show Below _ _ _ from (Below.refl _ _).drew) ?_
  simp only [List.take_succ_cons, List.take_zero, List.drop_succ_cons, List.drop_zero]
  repeat (first | (refine wpQuiet_bytes_string rfl 36 9 5 _ rfl B 32 32 I rfl Try.underlying36 Try.underlying5 Try.underlying9 HIr.out HIL.out.symm ?_) | (refine wpQuiet_step (fun K' hK' => ?_); go_simp; first | (refine ⟨_, fun _ _ => rfl, hK' _ ?_⟩; clear hK' K') | (refine ⟨_, fun wx hx => HMask.out wx hx, hK' _ ?_⟩; clear hK' K')))
  refine wpQuiet_nil ?_
  intro w5 hb5
  have hb5' : Below w4.heap.size w4 w5 := hb5
  clear hb5
  have hr5 := hr4.below hb5' hr4.lt
  have hbel5 := hbel4.trans (hb5'.mono hbel4.size)
  have hr6 : ∀ w6, Below w5.heap.size w5 w6 → Blk w6 (w.heap.size + 1) 23 (ints .u8 (zer 32)) := fun w6 h => hr5.below h hr5.lt
  go_wp2_with (first | (go_at_call 9; refine (HO.out _).mono ?_; rintro e w6 ⟨rfl, hb6⟩) | (refine wpList_store_blk rfl 23 _ _ rfl (w.heap.size + 1) (ints .u8 O) rfl rfl (hr6 _ hb6) (by rw [size_hash, ints_length, HOL.out]) (by rw [ints_length, ints_length, HOL.out]; rfl) (ints_one _ _) ?_))
  refine bodyPost_ret (v := .agg (ints .u8 O).toArray) (results_cell_blk rfl _ _ _ rfl ((hr6 _ hb6).row (ints .u8 O) (by rw [ints_length, ints_length, HOL.out]; rfl)) Try.underlying23 rfl (by rw [size_hash, ints_length, HOL.out])) rfl ⟨rfl, below_setRow (hbel5.trans (hb6.mono hbel5.size)) (by omega) _⟩

set_option maxHeartbeats 2000000 in
set_option maxRecDepth 100000 in
theorem d_Mac_long (key0 s : ByteArray) (w : World) (hk0 : 64 < key0.size) (hk1' : key0.size ≤ 549755813888) (hs : s.size ≤ 549755813888) :
    Calls Try.prog 11 #[.string key0, .string s] w fun e w' => e = .returned (.agg (ints .u8 (macOf (bs (sumL key0)) s)).toArray) ∧ Below w.heap.size w w' := by
  have hkey : ∀ w, Calls Try.prog 9 #[.string key0] w fun e w' => e = .returned (.agg (ints .u8 (sumL key0)).toArray) ∧ Below w.heap.size w w' := fun w => d_Sum _ w (by omega)
  have hsl : (sumL key0).length = 32 := sumL_len _
  have hk : (bs (sumL key0)).size ≤ 64 := by rw [bs_size, hsl]; omega
  generalize sumL key0 = S0 at *
  have HKey := Lib.hid hkey
  have HSL := Lib.hid hsl
  clear hkey hsl
  generalize hkk : bs S0 = key at *
  have HKK := Lib.hid hkk
  clear hkk
  have hm := fun m => maskL_len key hk m
  have hin : ∀ w, Calls Try.prog 9 #[.string (bs (maskL key 54) ++ s)] w fun e w' => e = .returned (.agg (ints .u8 (innerL key s)).toArray) ∧ Below w.heap.size w w' := fun w => d_Sum _ w (by rw [ByteArray.size_append, bs_size, hm]; omega)
  have hou : ∀ w, Calls Try.prog 9 #[.string (bs (maskL key 92) ++ bs (innerL key s))] w fun e w' => e = .returned (.agg (ints .u8 (macOf key s)).toArray) ∧ Below w.heap.size w w' := fun w => d_Sum _ w (by rw [ByteArray.size_append, bs_size, hm, bs_size, innerL, sumL_len]; omega)
  have hil : (innerL key s).length = 32 := sumL_len _
  have hol : (macOf key s).length = 32 := sumL_len _
  have hcat1 := fun w' => run_string_add_sum (P := Try.prog) w' (bs (maskL key 54)) s (by rw [bs_size, hm]; omega)
  have hcat2 := fun w' => run_string_add_sum (P := Try.prog) w' (bs (maskL key 92)) (bs (innerL key s)) (by rw [bs_size, hm, bs_size, hil]; omega)
  have HI := Lib.hid hin
  have HO := Lib.hid hou
  have HIL := Lib.hid hil
  have HOL := Lib.hid hol
  generalize innerL key s = I at *
  generalize macOf key s = O at *
  have HM := Lib.hid hm
  have hkz : (64 : Int) < (key0.size : Int) := by omega
  have hkz1 : (key0.size : Int) ≤ 549755813888 := by omega
  clear hin hou hil hol hm
  have hkA : Blk ((w.alloc (.cells #[.string key0] 9)).alloc (.cells #[.int .u8 0, .int .u8 0, .int .u8 0, .int .u8 0, .int .u8 0, .int .u8 0, .int .u8 0, .int .u8 0, .int .u8 0, .int .u8 0, .int .u8 0, .int .u8 0, .int .u8 0, .int .u8 0, .int .u8 0, .int .u8 0, .int .u8 0, .int .u8 0, .int .u8 0, .int .u8 0, .int .u8 0, .int .u8 0, .int .u8 0, .int .u8 0, .int .u8 0, .int .u8 0, .int .u8 0, .int .u8 0, .int .u8 0, .int .u8 0, .int .u8 0, .int .u8 0] 23)) w.heap.size 9 [.string key0] := (Blk.new' w 9 [.string key0] rfl).alloc _
  have hrA : Blk ((w.alloc (.cells #[.string key0] 9)).alloc (.cells #[.int .u8 0, .int .u8 0, .int .u8 0, .int .u8 0, .int .u8 0, .int .u8 0, .int .u8 0, .int .u8 0, .int .u8 0, .int .u8 0, .int .u8 0, .int .u8 0, .int .u8 0, .int .u8 0, .int .u8 0, .int .u8 0, .int .u8 0, .int .u8 0, .int .u8 0, .int .u8 0, .int .u8 0, .int .u8 0, .int .u8 0, .int .u8 0, .int .u8 0, .int .u8 0, .int .u8 0, .int .u8 0, .int .u8 0, .int .u8 0, .int .u8 0, .int .u8 0] 23)) (w.heap.size + 1) 23 (ints .u8 (zer 32)) := Blk.new2 _ _ _ _ rfl
  have hbA : Below w.heap.size w ((w.alloc (.cells #[.string key0] 9)).alloc (.cells #[.int .u8 0, .int .u8 0, .int .u8 0, .int .u8 0, .int .u8 0, .int .u8 0, .int .u8 0, .int .u8 0, .int .u8 0, .int .u8 0, .int .u8 0, .int .u8 0, .int .u8 0, .int .u8 0, .int .u8 0, .int .u8 0, .int .u8 0, .int .u8 0, .int .u8 0, .int .u8 0, .int .u8 0, .int .u8 0, .int .u8 0, .int .u8 0, .int .u8 0, .int .u8 0, .int .u8 0, .int .u8 0, .int .u8 0, .int .u8 0, .int .u8 0, .int .u8 0] 23)) := ((Below.refl _ _).alloc (Nat.le_refl _) _).alloc (by simp) _
  have hcA := hkA.cell 0
  have hcA' : ((w.alloc (.cells #[.string key0] 9)).alloc (.cells #[.int .u8 0, .int .u8 0, .int .u8 0, .int .u8 0, .int .u8 0, .int .u8 0, .int .u8 0, .int .u8 0, .int .u8 0, .int .u8 0, .int .u8 0, .int .u8 0, .int .u8 0, .int .u8 0, .int .u8 0, .int .u8 0, .int .u8 0, .int .u8 0, .int .u8 0, .int .u8 0, .int .u8 0, .int .u8 0, .int .u8 0, .int .u8 0, .int .u8 0, .int .u8 0, .int .u8 0, .int .u8 0, .int .u8 0, .int .u8 0, .int .u8 0, .int .u8 0] 23)).cell? ⟨w.heap.size, 0, none⟩ = some (.string key0) := by rw [hcA]; rfl
  clear hcA
  go_enter Try.func11, Try.ntmps11
  go_wp2_with fail
  generalize World.alloc (World.alloc w _) _ = wA at *
  clear hcA'
  refine (HKey.out _).mono ?_
  rintro e wB ⟨rfl, hbB⟩
  have hkB := (hkA.below hbB hkA.lt)
  have hrB := (hrA.below hbB hrA.lt)
  have hbB' := hbA.trans (hbB.mono hbA.size)
  have hk3 : Blk ((wB.alloc (.cells #[.int .u8 0, .int .u8 0, .int .u8 0, .int .u8 0, .int .u8 0, .int .u8 0, .int .u8 0, .int .u8 0, .int .u8 0, .int .u8 0, .int .u8 0, .int .u8 0, .int .u8 0, .int .u8 0, .int .u8 0, .int .u8 0, .int .u8 0, .int .u8 0, .int .u8 0, .int .u8 0, .int .u8 0, .int .u8 0, .int .u8 0, .int .u8 0, .int .u8 0, .int .u8 0, .int .u8 0, .int .u8 0, .int .u8 0, .int .u8 0, .int .u8 0, .int .u8 0] 23)).setRow wB.heap.size (ints .u8 S0).toArray) w.heap.size 9 [.string key0] := (hkB.alloc _).rowOther (by have := hkB.lt; omega) _
  have hr3 : Blk ((wB.alloc (.cells #[.int .u8 0, .int .u8 0, .int .u8 0, .int .u8 0, .int .u8 0, .int .u8 0, .int .u8 0, .int .u8 0, .int .u8 0, .int .u8 0, .int .u8 0, .int .u8 0, .int .u8 0, .int .u8 0, .int .u8 0, .int .u8 0, .int .u8 0, .int .u8 0, .int .u8 0, .int .u8 0, .int .u8 0, .int .u8 0, .int .u8 0, .int .u8 0, .int .u8 0, .int .u8 0, .int .u8 0, .int .u8 0, .int .u8 0, .int .u8 0, .int .u8 0, .int .u8 0] 23)).setRow wB.heap.size (ints .u8 S0).toArray) (w.heap.size + 1) 23 (ints .u8 (zer 32)) := (hrB.alloc _).rowOther (by have := hrB.lt; omega) _
  have hh3 : Blk ((wB.alloc (.cells #[.int .u8 0, .int .u8 0, .int .u8 0, .int .u8 0, .int .u8 0, .int .u8 0, .int .u8 0, .int .u8 0, .int .u8 0, .int .u8 0, .int .u8 0, .int .u8 0, .int .u8 0, .int .u8 0, .int .u8 0, .int .u8 0, .int .u8 0, .int .u8 0, .int .u8 0, .int .u8 0, .int .u8 0, .int .u8 0, .int .u8 0, .int .u8 0, .int .u8 0, .int .u8 0, .int .u8 0, .int .u8 0, .int .u8 0, .int .u8 0, .int .u8 0, .int .u8 0] 23)).setRow wB.heap.size (ints .u8 S0).toArray) wB.heap.size 23 (ints .u8 S0) := (Blk.new' wB 23 (ints .u8 (zer 32)) rfl).row _ (by rw [ints_length, ints_length, HSL.out]; rfl)
  have hb3 : Below w.heap.size w ((wB.alloc (.cells #[.int .u8 0, .int .u8 0, .int .u8 0, .int .u8 0, .int .u8 0, .int .u8 0, .int .u8 0, .int .u8 0, .int .u8 0, .int .u8 0, .int .u8 0, .int .u8 0, .int .u8 0, .int .u8 0, .int .u8 0, .int .u8 0, .int .u8 0, .int .u8 0, .int .u8 0, .int .u8 0, .int .u8 0, .int .u8 0, .int .u8 0, .int .u8 0, .int .u8 0, .int .u8 0, .int .u8 0, .int .u8 0, .int .u8 0, .int .u8 0, .int .u8 0, .int .u8 0] 23)).setRow wB.heap.size (ints .u8 S0).toArray) := below_setRow (hbB'.alloc hbB'.size _) hbB'.size _
  have hc3 : ((wB.alloc (.cells #[.int .u8 0, .int .u8 0, .int .u8 0, .int .u8 0, .int .u8 0, .int .u8 0, .int .u8 0, .int .u8 0, .int .u8 0, .int .u8 0, .int .u8 0, .int .u8 0, .int .u8 0, .int .u8 0, .int .u8 0, .int .u8 0, .int .u8 0, .int .u8 0, .int .u8 0, .int .u8 0, .int .u8 0, .int .u8 0, .int .u8 0, .int .u8 0, .int .u8 0, .int .u8 0, .int .u8 0, .int .u8 0, .int .u8 0, .int .u8 0, .int .u8 0, .int .u8 0] 23)).setRow wB.heap.size (ints .u8 S0).toArray).cell? ⟨w.heap.size, 0, none⟩ = some (.string key0) := by rw [hk3.cell]; rfl
  have hf3 := hk3.free 0
  have hrg3 : ((wB.alloc (.cells #[.int .u8 0, .int .u8 0, .int .u8 0, .int .u8 0, .int .u8 0, .int .u8 0, .int .u8 0, .int .u8 0, .int .u8 0, .int .u8 0, .int .u8 0, .int .u8 0, .int .u8 0, .int .u8 0, .int .u8 0, .int .u8 0, .int .u8 0, .int .u8 0, .int .u8 0, .int .u8 0, .int .u8 0, .int .u8 0, .int .u8 0, .int .u8 0, .int .u8 0, .int .u8 0, .int .u8 0, .int .u8 0, .int .u8 0, .int .u8 0, .int .u8 0, .int .u8 0] 23)).setRow wB.heap.size (ints .u8 S0).toArray).rangeAt wB.heap.size 0 (ints .u8 S0) := Blk.range (x := []) (y := ints .u8 S0) (z := []) (by simpa using hh3)
  go_wp2_with (first | (refine wpList_store_blk rfl 23 _ _ rfl wB.heap.size (ints .u8 S0) rfl rfl (Blk.new' wB 23 (ints .u8 (zer 32)) rfl) (by rw [size_hash, ints_length, HSL.out]) (by rw [ints_length, ints_length, HSL.out]; rfl) (ints_one _ _) ?_) | (refine wpList_bytes_string rfl 36 9 5 _ rfl wB.heap.size 32 32 S0 rfl Try.underlying36 Try.underlying5 Try.underlying9 hrg3 HSL.out.symm ?_; rw [HKK.out]))
  have hk1 : Blk (((wB.alloc (.cells #[.int .u8 0, .int .u8 0, .int .u8 0, .int .u8 0, .int .u8 0, .int .u8 0, .int .u8 0, .int .u8 0, .int .u8 0, .int .u8 0, .int .u8 0, .int .u8 0, .int .u8 0, .int .u8 0, .int .u8 0, .int .u8 0, .int .u8 0, .int .u8 0, .int .u8 0, .int .u8 0, .int .u8 0, .int .u8 0, .int .u8 0, .int .u8 0, .int .u8 0, .int .u8 0, .int .u8 0, .int .u8 0, .int .u8 0, .int .u8 0, .int .u8 0, .int .u8 0] 23)).setRow wB.heap.size (ints .u8 S0).toArray).setCell ⟨w.heap.size, 0, none⟩ (.string key)) w.heap.size 9 [.string key] := hk3.set 0 (.string key)
  have hres1 : Blk (((wB.alloc (.cells #[.int .u8 0, .int .u8 0, .int .u8 0, .int .u8 0, .int .u8 0, .int .u8 0, .int .u8 0, .int .u8 0, .int .u8 0, .int .u8 0, .int .u8 0, .int .u8 0, .int .u8 0, .int .u8 0, .int .u8 0, .int .u8 0, .int .u8 0, .int .u8 0, .int .u8 0, .int .u8 0, .int .u8 0, .int .u8 0, .int .u8 0, .int .u8 0, .int .u8 0, .int .u8 0, .int .u8 0, .int .u8 0, .int .u8 0, .int .u8 0, .int .u8 0, .int .u8 0] 23)).setRow wB.heap.size (ints .u8 S0).toArray).setCell ⟨w.heap.size, 0, none⟩ (.string key)) (w.heap.size + 1) 23 (ints .u8 (zer 32)) := hr3.other (by simp) _
  have hb1 : Below w.heap.size w (((wB.alloc (.cells #[.int .u8 0, .int .u8 0, .int .u8 0, .int .u8 0, .int .u8 0, .int .u8 0, .int .u8 0, .int .u8 0, .int .u8 0, .int .u8 0, .int .u8 0, .int .u8 0, .int .u8 0, .int .u8 0, .int .u8 0, .int .u8 0, .int .u8 0, .int .u8 0, .int .u8 0, .int .u8 0, .int .u8 0, .int .u8 0, .int .u8 0, .int .u8 0, .int .u8 0, .int .u8 0, .int .u8 0, .int .u8 0, .int .u8 0, .int .u8 0, .int .u8 0, .int .u8 0] 23)).setRow wB.heap.size (ints .u8 S0).toArray).setCell ⟨w.heap.size, 0, none⟩ (.string key)) := hb3.setCell (Nat.le_refl _) _
  generalize World.setCell _ _ _ = w1 at *
  clear hc3 hf3 hrg3 hk3 hr3 hh3 hb3 hbB hkB hrB hbB' hkA hrA hbA
  refine (d_mask w.heap.size key 54 _ hk hk1).mono ?_
  rintro e w2 ⟨rfl, hb2⟩
  have hk2 := hk1.below hb2 hk1.lt
  have hr2 := hres1.below hb2 hres1.lt
  have hbel2 := hb1.trans (hb2.mono hb1.size)
  go_wp2_with (first | (go_at_call 9; refine (HI.out _).mono ?_; rintro e w3 ⟨rfl, hb3⟩) | (refine wpList_store_blk rfl 23 _ _ rfl w3.heap.size (ints .u8 I) rfl rfl (Blk.new' w3 23 (ints .u8 (zer 32)) rfl) (by rw [size_hash, ints_length, HIL.out]) (by rw [ints_length, ints_length, HIL.out]; rfl) (ints_one _ _) ?_))
  have hsz3 := hb3.size
  have hI4 : Blk ((w3.alloc (.cells #[.int .u8 0, .int .u8 0, .int .u8 0, .int .u8 0, .int .u8 0, .int .u8 0, .int .u8 0, .int .u8 0, .int .u8 0, .int .u8 0, .int .u8 0, .int .u8 0, .int .u8 0, .int .u8 0, .int .u8 0, .int .u8 0, .int .u8 0, .int .u8 0, .int .u8 0, .int .u8 0, .int .u8 0, .int .u8 0, .int .u8 0, .int .u8 0, .int .u8 0, .int .u8 0, .int .u8 0, .int .u8 0, .int .u8 0, .int .u8 0, .int .u8 0, .int .u8 0] 23)).setRow w3.heap.size (ints .u8 I).toArray) w3.heap.size 23 (ints .u8 I) := (Blk.new' w3 23 (ints .u8 (zer 32)) rfl).row _ (by rw [ints_length, ints_length, HIL.out]; rfl)
  have hk4 : Blk ((w3.alloc (.cells #[.int .u8 0, .int .u8 0, .int .u8 0, .int .u8 0, .int .u8 0, .int .u8 0, .int .u8 0, .int .u8 0, .int .u8 0, .int .u8 0, .int .u8 0, .int .u8 0, .int .u8 0, .int .u8 0, .int .u8 0, .int .u8 0, .int .u8 0, .int .u8 0, .int .u8 0, .int .u8 0, .int .u8 0, .int .u8 0, .int .u8 0, .int .u8 0, .int .u8 0, .int .u8 0, .int .u8 0, .int .u8 0, .int .u8 0, .int .u8 0, .int .u8 0, .int .u8 0] 23)).setRow w3.heap.size (ints .u8 I).toArray) w.heap.size 9 [.string key] := ((hk2.below hb3 hk2.lt).alloc _).rowOther (by have := hk2.lt; omega) _
  have hr4 : Blk ((w3.alloc (.cells #[.int .u8 0, .int .u8 0, .int .u8 0, .int .u8 0, .int .u8 0, .int .u8 0, .int .u8 0, .int .u8 0, .int .u8 0, .int .u8 0, .int .u8 0, .int .u8 0, .int .u8 0, .int .u8 0, .int .u8 0, .int .u8 0, .int .u8 0, .int .u8 0, .int .u8 0, .int .u8 0, .int .u8 0, .int .u8 0, .int .u8 0, .int .u8 0, .int .u8 0, .int .u8 0, .int .u8 0, .int .u8 0, .int .u8 0, .int .u8 0, .int .u8 0, .int .u8 0] 23)).setRow w3.heap.size (ints .u8 I).toArray) (w.heap.size + 1) 23 (ints .u8 (zer 32)) := ((hr2.below hb3 hr2.lt).alloc _).rowOther (by have := hr2.lt; omega) _
  have hbel3 : Below w.heap.size w w3 := hbel2.trans (hb3.mono hbel2.size)
  have hbel4 : Below w.heap.size w ((w3.alloc (.cells #[.int .u8 0, .int .u8 0, .int .u8 0, .int .u8 0, .int .u8 0, .int .u8 0, .int .u8 0, .int .u8 0, .int .u8 0, .int .u8 0, .int .u8 0, .int .u8 0, .int .u8 0, .int .u8 0, .int .u8 0, .int .u8 0, .int .u8 0, .int .u8 0, .int .u8 0, .int .u8 0, .int .u8 0, .int .u8 0, .int .u8 0, .int .u8 0, .int .u8 0, .int .u8 0, .int .u8 0, .int .u8 0, .int .u8 0, .int .u8 0, .int .u8 0, .int .u8 0] 23)).setRow w3.heap.size (ints .u8 I).toArray) := below_setRow (hbel3.alloc hbel3.size _) hbel3.size _
  generalize World.setRow _ _ _ = w4 at *
  generalize w3.heap.size = B at *
  have hmask : ∀ wx, NewBut w4 wx → Calls Try.prog 27 #[.int .u8 92, .pointer (some ⟨w.heap.size, 0, none⟩)] wx fun e w' => e = .returned (.string (bs (maskL key 92))) ∧ NewBut w4 w' := fun wx hx =>
    (d_mask w.heap.size key 92 wx hk (hk4.below hx hk4.lt)).mono fun e w' ⟨he, hb⟩ => ⟨he, hx.trans (hb.mono hx.size)⟩
  have HMask := Lib.hid hmask
  clear hmask
  have hIr : ∀ wx, NewBut w4 wx → wx.rangeAt B 0 (ints .u8 I) := fun wx hx => Blk.range (x := []) (y := ints .u8 I) (z := []) (by simpa using hI4.below hx hI4.lt)
  have HIr := Lib.hid hIr
  clear hIr
  refine region_quiet_tail (C := NewBut w4) 5 mixed (by kernel_rfl) (show Below _ _ _ from (Below.refl _ _).drew) ?_
  simp only [List.take_succ_cons, List.take_zero, List.drop_succ_cons, List.drop_zero]
  repeat (first | (refine wpQuiet_bytes_string rfl 36 9 5 _ rfl B 32 32 I rfl Try.underlying36 Try.underlying5 Try.underlying9 HIr.out HIL.out.symm ?_) | (refine wpQuiet_step (fun K' hK' => ?_); go_simp; first | (refine ⟨_, fun _ _ => rfl, hK' _ ?_⟩; clear hK' K') | (refine ⟨_, fun wx hx => HMask.out wx hx, hK' _ ?_⟩; clear hK' K')))
  refine wpQuiet_nil ?_
  intro w5 hb5
  have hb5' : Below w4.heap.size w4 w5 := hb5
  clear hb5
  have hr5 := hr4.below hb5' hr4.lt
  have hbel5 := hbel4.trans (hb5'.mono hbel4.size)
  have hr6 : ∀ w6, Below w5.heap.size w5 w6 → Blk w6 (w.heap.size + 1) 23 (ints .u8 (zer 32)) := fun w6 h => hr5.below h hr5.lt
  go_wp2_with (first | (go_at_call 9; refine (HO.out _).mono ?_; rintro e w6 ⟨rfl, hb6⟩) | (refine wpList_store_blk rfl 23 _ _ rfl (w.heap.size + 1) (ints .u8 O) rfl rfl (hr6 _ hb6) (by rw [size_hash, ints_length, HOL.out]) (by rw [ints_length, ints_length, HOL.out]; rfl) (ints_one _ _) ?_))
  refine bodyPost_ret (v := .agg (ints .u8 O).toArray) (results_cell_blk rfl _ _ _ rfl ((hr6 _ hb6).row (ints .u8 O) (by rw [ints_length, ints_length, HOL.out]; rfl)) Try.underlying23 rfl (by rw [size_hash, ints_length, HOL.out])) rfl ⟨rfl, below_setRow (hbel5.trans (hb6.mono hbel5.size)) (by omega) _⟩

theorem d_Mac (key s : ByteArray) (w : World) (hk : key.size ≤ 549755813888) (hs : s.size ≤ 549755813888) :
    Calls Try.prog 11 #[.string key, .string s] w fun e w' => e = .returned (.agg (ints .u8 (macL key s)).toArray) ∧ Below w.heap.size w w' := by
  unfold macL keyOf
  split
  · exact d_Mac_short key s w (by assumption) hs
  · exact d_Mac_long key s w (by omega) hk hs
end Go.Proofs.Ytadppbjchacjiaa
