/- Walks of the journal's sectors, told one by one. -/
import Derived.Test.YtmonenbnjnjahaaYFr
import Derived.Test.YtmonenbnjnjahaaYRep
import Derived.Test.YtmonenbnjnjahaaG1
import Derived.Test.YtmonenbnjnjahaaG2
import Derived.BigQuiet
namespace Go.Proofs.Ytmonenbnjnjahaa
open Go.RowKit Go.Shelf
set_option linter.unusedVariables false

attribute [local go_sem] Oper.semAt_some

theorem piece_txJ (s : ByteArray) (i : Nat) : s.extract (32 * i) (32 * i + 32) = tx (pcJ (sl s) i) := by
  rw [← tx_sl (s.extract (32 * i) (32 * i + 32))]
  congr 1
  simp [pcJ, sl, ByteArray.data_extract, List.map_take, List.map_drop]
set_option maxRecDepth 100000 in
set_option maxHeartbeats 2000000 in
/-- the iterator, for every body that keeps its block -/
theorem j_se_in (n l Gs Ga a k : Nat) (s : ByteArray) (hk : (s.size + 31) / 32 = k) (hs : s.size ≤ 2000) (ha : a ≤ 5000) (J Jx : List Nat → World → Prop) (hn : 2 ≤ n) (W : World) (hJ : AbidesFrom W.heap.size J)
    (hY : ∀ pre i W1, i < k → J pre W1 → pre.length < k → YieldAt Fence.wide (n - 1) Try.prog l #[.int .i64 ((a + i : Nat) : Int), .string (tx (pcJ (fillJ (sl s) k) i))] W1 fun e W' =>
      (e = .returned (.bool true) ∧ J (pre ++ [i]) W' ∧ (∀ o, W1.heap[Ga]? = some o → W'.heap[Ga]? = some o)) ∨ (e = .returned (.bool false) ∧ Jx (pre ++ [i]) W'))
    (hGs : Blk W Gs 9 [.string s]) (hGa : Blk W Ga 3 [.int .i64 (a : Int)]) (h0 : J [] W) :
    CallsIn Fence.wide n Try.prog 53 #[.func (.yield l) #[] #[], .pointer (some ⟨Gs, 0, none⟩), .pointer (some ⟨Ga, 0, none⟩)] W fun e W' => (∃ v, e = .returned v) ∧
      ((∃ ys, ys = List.range k ∧ J ys W') ∨ (∃ pre, True ∧ Jx pre W')) := by
  obtain ⟨Zs, hZs⟩ : ∃ Zs, tx (zerN (32 * k - s.size)) = Zs := ⟨_, rfl⟩
  have hZz : Zs.size = 32 * k - s.size := by rw [← hZs, tx_size, zerN_len]
  obtain ⟨Fd, hFd⟩ : ∃ Fd, s ++ Zs = Fd := ⟨_, rfl⟩
  have hFs : sl Fd = fillJ (sl s) k := by
    rw [← hFd, ← hZs]
    unfold fillJ
    rw [sl_len]
    conv => lhs; rw [← tx_sl s, ← tx_app]
    rw [sl_tx ((sl_bys s).app (zer_bys _))]
    rw [tx_sl]
  have hFz : Fd.size = 32 * k := by rw [← hFd, ByteArray.size_append, hZz]; omega
  have hadd := fun w' => run_string_add_sum (P := Try.prog) w' s Zs (by rw [hZz]; omega)
  rw [hFd] at hadd
  have hrep : ∀ wx, NewBut W wx → Calls Try.prog 54 #[.string ⟨#[0]⟩, .int .i64 (IntKind.i64.wrap (IntKind.i64.wrap ((k : Int) * 32) - (s.size : Int)))] wx fun e w' => e = .returned (.string Zs) ∧ NewBut W w' := fun wx hx => by
    have hz : IntKind.i64.wrap (IntKind.i64.wrap ((k : Int) * 32) - (s.size : Int)) = ((32 * k - s.size : Nat) : Int) := by
      rw [IntKind.wrap_i64, IntKind.wrap_i64]
      omega
    have := j_Repeat (32 * k - s.size) (by omega) wx
    rw [hZs] at this
    rw [hz]
    exact this.mono fun _ _ ⟨e1, e2⟩ => ⟨e1, hx.trans (e2.mono hx.size)⟩
  have hcs : ∀ wx, NewBut W wx → wx.cell? ⟨Gs, 0, none⟩ = some (.string s) := fun wx hx => (hGs.below hx hGs.lt).cell 0
  have c1 := hGs.cell 0
  simp only [List.getElem?_cons_zero] at c1
  have HSF := Lib.hid (fun w => j_sectorsFor (s.size : Int) (by omega) (by omega) k (by omega) w)
  have HREP := Lib.hid hrep
  have HCS := Lib.hid hcs
  have HFS := Lib.hid hFs
  have HFZ := Lib.hid hFz
  have HGA := Lib.hid hGa
  have b1 : (k : Int) ≤ 100 := by omega
  have b2 : (0 : Int) ≤ (k : Int) := by omega
  have b3 : (s.size : Int) ≤ 2000 := by omega
  have b4 : (a : Int) ≤ 5000 := by omega
  have b5 : (Fd.size : Int) ≤ 3200 := by omega
  clear hZs hZz hFd hFs hFz hrep hcs hGs hGa hk hs
  refine callsIn_of_wp Try.func53 rfl trivial ?_ rfl
  simp only [Try.ntmps53, List.size_toArray, List.length_cons, List.length_nil, Nat.reduceAdd, Nat.reduceSub, Array.replicate_succ, Array.replicate_zero, List.push_toArray, List.append_toArray, List.nil_append, List.cons_append]
  gi_wp2_with fail
  refine ⟨trivial, fun h => by simp [Fence.wide] at h, callsIn_wide.2 ((HSF.out _).mono ?_)⟩
  rintro e w1 ⟨rfl, rfl⟩
  gi_wp2_with fail
  refine regionIn_wide_tail (C := NewBut w1) 8 mixed (by kernel_rfl) (by kernel_rfl) (show Below _ _ _ from (Below.refl _ _).drew) ?_
  simp only [List.take_succ_cons, List.take_zero, List.drop_succ_cons, List.drop_zero]
  repeat (first | (refine wpQuiet_load_one rfl 9 _ rfl ⟨Gs, 0, none⟩ rfl (.string s) HCS.out Try.underlying9 rfl ?_) | go_big_quiet_step (fail) | (refine wpQuiet_step (fun K' hK' => ?_); go_simp; first | (refine hK' _ ?_; clear hK' K') | (refine ⟨_, fun _ _ => rfl, hK' _ ?_⟩; clear hK' K') | ((with_reducible refine ⟨_, fun wx hx => HREP.out wx hx, hK' _ ?_⟩); clear hK' K')))
  refine wpQuiet_nil ?_
  intro w5 hb5
  have gA := HGA.out.below hb5 HGA.out.lt
  have gJ0 := hJ _ _ _ none h0 (grown_below hb5) (fun r e => by cases e)
  clear h0 c1
  gi_wp2
  have HA := Lib.hid ha
  clear HREP HCS HSF HGA hadd b3 ha
  gi_loopw [6, 19] (fun _ v wr => ∃ i : Nat, v = .int .i64 (i : Int) ∧ i ≤ k ∧ J (List.range i) wr ∧ Blk wr Ga 3 [.int .i64 (a : Int)]) (fun _ v _ => k - (intOf v).toNat)
  case atStart => exact ⟨0, rfl, Nat.zero_le _, gJ0, gA⟩
  case round =>
    obtain ⟨i, rfl, hi, gJ, gG⟩ := hrel
    clear gJ0 gA
    by_cases hlt : i < k
    · have g1 : (i : Int) < (k : Int) := by omega
      have hca : ∀ wx, NewBut wr wx → wx.cell? ⟨Ga, 0, none⟩ = some (.int .i64 (a : Int)) := fun wx hx => (gG.below hx gG.lt).cell 0
      have HCA := Lib.hid hca
      have hX := piece_txJ Fd i
      rw [HFS.out] at hX
      have hval : ((a + i : Nat) : Int) = (a : Int) + (i : Int) := by omega
      have hFz := HFZ.out
      have f1 : IntKind.i64.wrap ((a : Int) + (i : Int)) = (a : Int) + (i : Int) := by rw [IntKind.wrap_i64]; omega
      have f2 : IntKind.i64.wrap ((i : Int) * 32) = ((32 * i : Nat) : Int) := by rw [IntKind.wrap_i64]; omega
      have f3 : IntKind.i64.wrap ((i : Int) + 1) = (i : Int) + 1 := by rw [IntKind.wrap_i64]; omega
      have f4 : IntKind.i64.wrap (((i : Int) + 1) * 32) = ((32 * i + 32 : Nat) : Int) := by rw [IntKind.wrap_i64]; omega
      have HX := Lib.hid hX
      have HV := Lib.hid hval
      have HI := Lib.hid hlt
      obtain ⟨X, hXX⟩ : ∃ X, tx (pcJ (fillJ (sl s) k) i) = X := ⟨_, rfl⟩
      obtain ⟨lo, hlo⟩ : ∃ lo, 32 * i = lo := ⟨_, rfl⟩
      obtain ⟨hh, hhh⟩ : ∃ hh, lo + 32 = hh := ⟨_, rfl⟩
      rw [hlo] at f2 f4 hX
      rw [hhh] at f4 hX
      have f5 : (lo : Int) ≤ (hh : Int) := by omega
      have f6 : (hh : Int) ≤ (Fd.size : Int) := by omega
      have f7 : Fd.extract lo hh = X := by rw [hX, hXX]
      have HXX := Lib.hid hXX
      have GG := Lib.hid gG
      clear hca gG hX hval hFz hlt hi hlo hhh hXX HX
      gi_wp2_with fail
      refine regionIn_wide_tail (C := NewBut wr) 11 mixed (by kernel_rfl) (by kernel_rfl) (show Below _ _ _ from (Below.refl _ _).drew) ?_
      simp only [List.take_succ_cons, List.take_zero, List.drop_succ_cons, List.drop_zero]
      repeat (first | (refine wpQuiet_load_one rfl 3 _ rfl ⟨Ga, 0, none⟩ rfl (.int .i64 (a : Int)) HCA.out Try.underlying3 rfl ?_) | go_big_quiet_step (fail) | (refine wpQuiet_step (fun K' hK' => ?_); go_simp; first | (refine hK' _ ?_; clear hK' K') | (refine ⟨_, fun _ _ => rfl, hK' _ ?_⟩; clear hK' K')))
      refine wpQuiet_nil ?_
      intro w6 hb6
      have gJ1 := hJ _ wr _ none gJ (grown_below hb6) (fun r e => by cases e)
      have gG1 := GG.out.below hb6 GG.out.lt
      obtain ⟨fn, tmps, assign, body, hy, hR⟩ := hY (List.range i) i w6 HI.out gJ1 (by rw [List.length_range]; exact HI.out)
      rw [← List.range_succ] at hR
      rw [HV.out, HXX.out] at hy
      have HR := Lib.hid hR
      clear hR gJ gJ1 hY
      gi_wp2
      first | refine HR.out.mono ?_ | refine ⟨fun _ => by omega, HR.out.mono ?_⟩
      rintro e W3 (⟨rfl, hJ3, hG3⟩ | ⟨rfl, hJx3⟩)
      · have HG3 := Lib.hid (hG3 _ gG1)
        have HJ3 := Lib.hid hJ3
        clear hG3 hJ3 HR
        gi_wp2
        go_roundw
        case rel => exact ⟨i + 1, by go_num, HI.out, HJ3.out, HG3.out⟩
        case measure => (have := HI.out; simp [intOf]; omega)
      · gi_wp2
        refine bodyPost_ret (results_none rfl _ _ _) rfl ?_
        exact ⟨⟨_, rfl⟩, .inr ⟨_, trivial, hJx3⟩⟩
    · have g1 : ¬ (i : Int) < (k : Int) := by omega
      obtain rfl : k = i := by omega
      have HJ := Lib.hid gJ
      clear gJ
      gi_wp2
      go_end0
      exact ⟨⟨_, rfl⟩, .inl HJ.out⟩
theorem j_sectors (a : Nat) (s : ByteArray) (w : World) :
    Calls Try.prog 40 #[.int .i64 (a : Int), .string s] w fun e w' => e = .returned (.func (.func 53) #[] #[.pointer (some ⟨w.heap.size + 1, 0, none⟩), .pointer (some ⟨w.heap.size, 0, none⟩)]) ∧ w' = (w.alloc (.cells #[.int .i64 (a : Int)] 3)).alloc (.cells #[.string s] 9) := by
  go_enter Try.func40, Try.ntmps40
  go_wp2
  go_ret
  exact ⟨rfl, rfl⟩
theorem j_sstops (n Gs Ga a k : Nat) (s : ByteArray) (hk : (s.size + 31) / 32 = k) (hs : s.size ≤ 2000) (ha : a ≤ 5000) (hn : 2 ≤ n) (w : World) (hGs : Blk w Gs 9 [.string s]) (hGa : Blk w Ga 3 [.int .i64 (a : Int)]) :
    SeqStopsK Fence.wide n Try.prog 53 #[.pointer (some ⟨Gs, 0, none⟩), .pointer (some ⟨Ga, 0, none⟩)] (fun i : {i : Nat // i < k} => #[.int .i64 ((a + i.val : Nat) : Int), Value.string (tx (pcJ (fillJ (sl s) k) i.val))]) (fun A B => ∀ o, A.heap[Ga]? = some o → B.heap[Ga]? = some o) (fun ys => ys.map (·.val) = List.range k) (fun _ => True) k w := fun l J Jx W hW hJ _ hY h0 => by
  refine (j_se_in n l Gs Ga a k s hk hs ha (fun pre W => ∃ ys : List ({i : Nat // i < k}), ys.map (·.val) = pre ∧ J ys W) (fun pre W => ∃ ys : List ({i : Nat // i < k}), ys.map (·.val) = pre ∧ Jx ys W) hn W ?_ ?_ (hGs.below hW hGs.lt) (hGa.below hW hGa.lt) ⟨[], rfl, h0⟩).mono ?_
  · rintro pre X Y row ⟨ys, e, h⟩ hg hr
    exact ⟨ys, e, hJ ys X Y row h hg hr⟩
  · rintro pre x W1 hx ⟨ys, rfl, h⟩ hlt
    refine (hY ys ⟨x, hx⟩ W1 h (by simpa using hlt)).mono ?_
    rintro e W' (⟨h1, h2, h3⟩ | ⟨h1, h2⟩)
    · exact .inl ⟨h1, ⟨_, by simp, h2⟩, h3⟩
    · exact .inr ⟨h1, ⟨_, by simp, h2⟩⟩
  · rintro e W' ⟨h1, (⟨_, h2, ys, h3, h4⟩ | ⟨_, h2, ys, h3, h4⟩)⟩
    · exact ⟨h1, .inl ⟨ys, h3.trans h2, h4⟩⟩
    · exact ⟨h1, .inr ⟨ys, trivial, h4⟩⟩
end Go.Proofs.Ytmonenbnjnjahaa
