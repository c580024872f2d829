/- Walks of slices.Chunk over bytes, 32 at a time. -/
import Derived.Test.YtccplgicfbfjiaaOgLo
import Derived.Test.YtccplgicfbfjiaaY3
import Derived.Test.YtccplgicfbfjiaaG1
namespace Go.Proofs.Ytccplgicfbfjiaa
open Go.RowKit Go.Shelf
set_option linter.unusedVariables false

attribute [local go_sem] Oper.semAt_some

theorem g_Chunk (v : Value) (w : World) (hv : ∃ p n c, v = .slice p n c) :
    Calls Try.prog 36 #[v, .int .i64 32] w fun e w' => e = .returned (.func (.func 52) #[] #[.pointer (some ⟨w.heap.size, 0, none⟩), .pointer (some ⟨w.heap.size + 1, 0, none⟩)]) ∧ w' = (w.alloc (.cells #[v] 24)).alloc (.cells #[.int .i64 32] 3) := by
  obtain ⟨p, n, c, rfl⟩ := hv
  go_enter Try.func36, Try.ntmps36
  go_wp2
  go_ret
  exact ⟨rfl, rfl⟩
/-- the place of a chunk -/
def chV (B i : Nat) : Value := .slice (some ⟨B, 32 * i, none⟩) 32 32
set_option maxRecDepth 100000 in
set_option maxHeartbeats 2000000 in
/-- the iterator, for every body that keeps its two blocks -/
theorem g_ch_in (n l Gs Gn B k N cap : Nat) (hN : N = 32 * k) (hk : k ≤ 40) (hc : N ≤ cap) (J Jx : List Nat → World → Prop) (hn : 2 ≤ n) (W : World) (hJ : AbidesFrom W.heap.size J)
    (hY : ∀ pre i W1, i < k → J pre W1 → pre.length < k → YieldAt Fence.wide (n - 1) Try.prog l #[chV B i] W1 fun e W' =>
      (e = .returned (.bool true) ∧ J (pre ++ [i]) W' ∧ (∀ o, W1.heap[Gs]? = some o → W'.heap[Gs]? = some o) ∧ (∀ o, W1.heap[Gn]? = some o → W'.heap[Gn]? = some o)) ∨ (e = .returned (.bool false) ∧ Jx (pre ++ [i]) W'))
    (hGs : Blk W Gs 24 [.slice (some ⟨B, 0, none⟩) N cap]) (hGn : Blk W Gn 3 [.int .i64 32]) (h0 : J [] W) :
    CallsIn Fence.wide n Try.prog 52 #[.func (.yield l) #[] #[], .pointer (some ⟨Gs, 0, none⟩), .pointer (some ⟨Gn, 0, none⟩)] W fun e W' => (∃ v, e = .returned v) ∧
      ((∃ ys, ys = List.range k ∧ J ys W') ∨ (∃ pre, (∃ i, i < k ∧ pre = List.range (i + 1)) ∧ Jx pre W')) := by
  have b1 : (N : Int) ≤ 1280 := by omega
  have b2 : (0 : Int) ≤ (N : Int) := by omega
  have HK := Lib.hid hk
  have HC := Lib.hid hc
  have HN := Lib.hid hN
  clear hN hk hc
  refine callsIn_of_wp Try.func52 rfl trivial ?_ rfl
  simp only [Try.ntmps52, List.size_toArray, List.length_cons, List.length_nil, Nat.reduceAdd, Nat.reduceSub, Array.replicate_succ, Array.replicate_zero, List.push_toArray, List.append_toArray, List.nil_append, List.cons_append]
  gi_wp2_with fail
  gi_loopw [4] (fun v wr => ∃ (i lo : Nat), 32 * i = lo ∧ v = .int .i64 (lo : Int) ∧ i ≤ k ∧ J (List.range i) wr ∧ Blk wr Gs 24 [.slice (some ⟨B, 0, none⟩) N cap] ∧ Blk wr Gn 3 [.int .i64 32]) (fun v _ => 32 * k - (intOf v).toNat)
  case atStart => exact ⟨0, 0, rfl, rfl, Nat.zero_le _, h0, hGs, hGn⟩
  case round =>
    obtain ⟨i, lo, hlo, rfl, hi, gJ, gS, gN⟩ := hrel
    clear h0 hGs hGn
    by_cases hlt : i < k
    · have g1 : (lo : Int) < (N : Int) := by have := HN.out; omega
      have hlN : lo ≤ N := by omega
      have f1 : (lo : Int) ≤ (N : Int) := by omega
      have f3 : (N : Int) ≤ (cap : Int) := by have := HC.out; omega
      have hcs : ∀ wx, NewBut wr wx → wx.cell? ⟨Gs, 0, none⟩ = some (.slice (some ⟨B, 0, none⟩) N cap) := fun wx hx => (gS.below hx gS.lt).cell 0
      have hcn : ∀ wx, NewBut wr wx → wx.cell? ⟨Gn, 0, none⟩ = some (.int .i64 32) := fun wx hx => (gN.below hx gN.lt).cell 0
      have c1 := gS.cell 0
      simp only [List.getElem?_cons_zero] at c1
      have HCS := Lib.hid hcs
      have HCNn := Lib.hid hcn
      have GS := Lib.hid gS
      have GN := Lib.hid gN
      have HLO := Lib.hid hlo
      have HI := Lib.hid hlt
      have HJ1 := Lib.hid gJ
      obtain ⟨m, hm⟩ : ∃ m, N - lo = m := ⟨_, rfl⟩
      have hm32 : m = 32 ∨ 32 < m := by have := HN.out; omega
      have f6 : (m : Int) ≤ 1280 := by omega
      have f7 : min (32 : Int) (m : Int) = 32 := by omega
      have f8 : cap ≠ lo := by have := HC.out; have := HN.out; omega
      obtain ⟨hh, hhh⟩ : ∃ hh, lo + 32 = hh := ⟨_, rfl⟩
      have f9 : IntKind.i64.wrap ((lo : Int) + 32) = (hh : Int) := by rw [IntKind.wrap_i64]; omega
      have f10 : (hh : Int) ≤ (cap : Int) := by have := HC.out; have := HN.out; omega
      have f11 : (lo : Int) ≤ (hh : Int) := by omega
      have f12 : hh - lo = 32 := by omega
      have f13 : hh ≠ lo := by omega
      have HHH := Lib.hid hhh
      clear hhh
      have HM := Lib.hid hm
      clear hcs hcn gS gN hlo hlt gJ hi
      gi_wp2_with fail
      refine regionIn_wide_tail (C := NewBut wr) 6 mixed (by kernel_rfl) (by kernel_rfl) (show Below _ _ _ from (Below.refl _ _).drew) ?_
      simp only [List.take_succ_cons, List.take_zero, List.drop_succ_cons, List.drop_zero]
      repeat (first | (refine wpQuiet_load_one rfl 24 _ rfl ⟨Gs, 0, none⟩ rfl (.slice (some ⟨B, 0, none⟩) N cap) HCS.out Try.underlying24 rfl ?_) | (refine wpQuiet_load_one rfl 3 _ rfl ⟨Gn, 0, none⟩ rfl (.int .i64 32) HCNn.out Try.underlying3 rfl ?_) | go_big_quiet_step (fail) | (refine wpQuiet_step (fun K' hK' => ?_); go_simp; first | (refine hK' _ ?_; clear hK' K') | (refine ⟨_, fun _ _ => rfl, hK' _ ?_⟩; clear hK' K')))
      refine wpQuiet_nil ?_
      intro w6 hb6
      have gJ1 := hJ _ wr _ none HJ1.out (grown_below hb6) (fun r e => by cases e)
      have gS1 := GS.out.below hb6 GS.out.lt
      have gN1 := GN.out.below hb6 GN.out.lt
      have c3 := gS1.cell 0
      simp only [List.getElem?_cons_zero] at c3
      obtain ⟨fn, tmps, assign, body, hy, hR⟩ := hY (List.range i) i w6 HI.out gJ1 (by rw [List.length_range]; exact HI.out)
      rw [← List.range_succ] at hR
      have hv : chV B i = .slice (some ⟨B, lo, none⟩) 32 32 := by unfold chV; rw [HLO.out]
      rw [hv] at hy
      have HR := Lib.hid hR
      have GS1 := Lib.hid gS1
      have GN1 := Lib.hid gN1
      clear hR gJ1 hY gS1 gN1 c1 hv
      gi_wp2
      first | refine HR.out.mono ?_ | refine ⟨fun _ => by omega, HR.out.mono ?_⟩
      rintro e W3 (⟨rfl, hJ3, hG3, hN3⟩ | ⟨rfl, hJx3⟩)
      · have gS3 : Blk W3 Gs 24 [.slice (some ⟨B, 0, none⟩) N cap] := hG3 _ GS1.out
        have gN3 : Blk W3 Gn 3 [.int .i64 32] := hN3 _ GN1.out
        have c4 := gN3.cell 0
        simp only [List.getElem?_cons_zero] at c4
        have GS3 := Lib.hid gS3
        have GN3 := Lib.hid gN3
        have HJ3 := Lib.hid hJ3
        clear hG3 hN3 hJ3 HR gS3 gN3 c3
        gi_wp2
        go_roundw
        case rel => exact ⟨i + 1, hh, by have := HLO.out; have := HHH.out; omega, by go_num, HI.out, HJ3.out, GS3.out, GN3.out⟩
        case measure => (have := HI.out; have := HLO.out; have := HHH.out; simp [intOf]; omega)
      · gi_wp2
        refine bodyPost_ret (results_none rfl _ _ _) rfl ?_
        exact ⟨⟨_, rfl⟩, .inr ⟨_, ⟨i, HI.out, rfl⟩, hJx3⟩⟩
    · have g1 : ¬ (lo : Int) < (N : Int) := by have := HN.out; omega
      obtain rfl : k = i := by omega
      have c1 := gS.cell 0
      simp only [List.getElem?_cons_zero] at c1
      have HJ := Lib.hid gJ
      clear gJ
      gi_wp2
      go_end0
      exact ⟨⟨_, rfl⟩, .inl HJ.out⟩
theorem g_cstops (n Gs Gn B k N cap : Nat) (hN : N = 32 * k) (hk : k ≤ 40) (hc : N ≤ cap) (hn : 2 ≤ n) (w : World) (hGs : Blk w Gs 24 [.slice (some ⟨B, 0, none⟩) N cap]) (hGn : Blk w Gn 3 [.int .i64 32]) :
    SeqStopsK Fence.wide n Try.prog 52 #[.pointer (some ⟨Gs, 0, none⟩), .pointer (some ⟨Gn, 0, none⟩)] (fun i : {i : Nat // i < k} => #[chV B i.val]) (fun A C => (∀ o, A.heap[Gs]? = some o → C.heap[Gs]? = some o) ∧ (∀ o, A.heap[Gn]? = some o → C.heap[Gn]? = some o)) (fun ys => ys.map (·.val) = List.range k) (fun ys => ∃ i, i < k ∧ ys.map (·.val) = List.range (i + 1)) k w := fun l J Jx W hW hJ _ hY h0 => by
  refine (g_ch_in n l Gs Gn B k N cap hN hk hc (fun pre W => ∃ ys : List ({i : Nat // i < k}), ys.map (·.val) = pre ∧ J ys W) (fun pre W => ∃ ys : List ({i : Nat // i < k}), ys.map (·.val) = pre ∧ Jx ys W) hn W ?_ ?_ (hGs.below hW hGs.lt) (hGn.below hW hGn.lt) ⟨[], rfl, h0⟩).mono ?_
  · rintro pre X Y row ⟨ys, e, h⟩ hg hr
    exact ⟨ys, e, hJ ys X Y row h hg hr⟩
  · rintro pre x W1 hx ⟨ys, rfl, h⟩ hlt
    refine (hY ys ⟨x, hx⟩ W1 h (by simpa using hlt)).mono ?_
    rintro e W' (⟨h1, h2, h3, h4⟩ | ⟨h1, h2⟩)
    · exact .inl ⟨h1, ⟨_, by simp, h2⟩, h3, h4⟩
    · exact .inr ⟨h1, ⟨_, by simp, h2⟩⟩
  · rintro e W' ⟨h1, (⟨_, h2, ys, h3, h4⟩ | ⟨_, h2, ys, h3, h4⟩)⟩
    · exact ⟨h1, .inl ⟨ys, h3.trans h2, h4⟩⟩
    · obtain ⟨i, h5, h6⟩ := h2
      exact ⟨h1, .inr ⟨ys, ⟨i, h5, h3.trans h6⟩, h4⟩⟩
end Go.Proofs.Ytccplgicfbfjiaa
