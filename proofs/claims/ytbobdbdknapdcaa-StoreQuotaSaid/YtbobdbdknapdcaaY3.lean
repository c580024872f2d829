/- strings.Repeat, at this program: the library's contract, its conditions paid one by one. -/
import Derived.Test.YtbobdbdknapdcaaProg
import Derived.Shelf.Strings.Repeat
import Derived.Test.YtbobdbdknapdcaaG1
import Derived.Test.YtbobdbdknapdcaaY1
import Derived.Test.YtbobdbdknapdcaaG2
import Derived.BigQuiet
import Derived.Test.YtbobdbdknapdcaaZC
import Derived.Test.YtbobdbdknapdcaaZB
import Derived.Test.YtbobdbdknapdcaaG4
import Derived.RangeFuncNested
namespace Go.Proofs.Ytbobdbdknapdcaa
open Go.RowKit Go.Shelf
set_option linter.unusedVariables false

def repA_ren : Go.Shelf.Ren := ⟨fun | 105 => 73 | 212 => 88 | 99 => 89 | 165 => 90 | 166 => 79 | 170 => 91 | 169 => 80 | 263 => 93 | 264 => 85 | 206 => 94 | 240 => 92 | 241 => 95 | 276 => 96 | 277 => 97 | n => n, fun | 9 => 9 | 3 => 3 | 4 => 4 | 20 => 20 | 0 => 0 | 46 => 99 | 109 => 149 | 5 => 5 | 72 => 139 | 76 => 142 | 51 => 69 | 146 => 154 | 53 => 52 | 148 => 146 | 70 => 137 | 37 => 33 | 75 => 141 | 127 => 153 | 164 => 156 | 80 => 144 | n => n, fun | n => n⟩
theorem repA : Go.Proofs.Lays.n105 Try.prog repA_ren where
  mixed := by kernel_rfl
  f99 := Try.func89.trans (congrArg some (by kernel_rfl))
  f105 := Try.func73.trans (congrArg some (by kernel_rfl))
  f165 := Try.func90.trans (congrArg some (by kernel_rfl))
  f166 := Try.func79.trans (congrArg some (by kernel_rfl))
  f169 := Try.func80.trans (congrArg some (by kernel_rfl))
  f170 := Try.func91.trans (congrArg some (by kernel_rfl))
  f206 := Try.func94.trans (congrArg some (by kernel_rfl))
  f212 := Try.func88.trans (congrArg some (by kernel_rfl))
  f240 := Try.func92.trans (congrArg some (by kernel_rfl))
  f241 := Try.func95.trans (congrArg some (by kernel_rfl))
  f263 := Try.func93.trans (congrArg some (by kernel_rfl))
  f264 := Try.func85.trans (congrArg some (by kernel_rfl))
  f276 := Try.func96.trans (congrArg some (by kernel_rfl))
  f277 := Try.func97.trans (congrArg some (by kernel_rfl))
  t0 := Try.underlying0
  a0 := Try.isAgg0
  z0 := Try.sizeOf0
  v0 := Try.zeroValue0
  t3 := Try.underlying3
  a3 := Try.isAgg3
  z3 := Try.sizeOf3
  v3 := Try.zeroValue3
  t4 := Try.underlying4
  a4 := Try.isAgg4
  z4 := Try.sizeOf4
  v4 := Try.zeroValue4
  t5 := Try.underlying5
  a5 := Try.isAgg5
  z5 := Try.sizeOf5
  v5 := Try.zeroValue5
  t9 := Try.underlying9
  a9 := Try.isAgg9
  z9 := Try.sizeOf9
  v9 := Try.zeroValue9
  t20 := Try.underlying20
  a20 := Try.isAgg20
  z20 := Try.sizeOf20
  v20 := Try.zeroValue20
  t37 := Try.underlying33
  a37 := Try.isAgg33
  z37 := Try.sizeOf33
  v37 := Try.zeroValue33
  t46 := Try.underlying99
  a46 := Try.isAgg99
  z46 := Try.sizeOf99
  v46 := Try.zeroValue99
  t51 := Try.underlying69
  a51 := Try.isAgg69
  z51 := Try.sizeOf69
  v51 := Try.zeroValue69
  t53 := Try.underlying52
  a53 := Try.isAgg52
  z53 := Try.sizeOf52
  v53 := Try.zeroValue52
  t70 := Try.underlying137
  a70 := Try.isAgg137
  z70 := Try.sizeOf137
  v70 := Try.zeroValue137
  t72 := Try.underlying139
  a72 := Try.isAgg139
  z72 := Try.sizeOf139
  v72 := Try.zeroValue139
  t75 := Try.underlying141
  a75 := Try.isAgg141
  z75 := Try.sizeOf141
  v75 := Try.zeroValue141
  t76 := Try.underlying142
  a76 := Try.isAgg142
  z76 := Try.sizeOf142
  v76 := Try.zeroValue142
  t109 := Try.underlying149
  a109 := Try.isAgg149
  z109 := Try.sizeOf149
  v109 := Try.zeroValue149
  t127 := Try.underlying153
  a127 := Try.isAgg153
  z127 := Try.sizeOf153
  v127 := Try.zeroValue153
  t146 := Try.underlying154
  a146 := Try.isAgg154
  z146 := Try.sizeOf154
  v146 := Try.zeroValue154
  t148 := Try.underlying146
  a148 := Try.isAgg146
  z148 := Try.sizeOf146
  v148 := Try.zeroValue146
  t164 := Try.underlying156
  a164 := Try.isAgg156
  z164 := Try.sizeOf156
  v164 := Try.zeroValue156
theorem repX : Go.Proofs.Builder.Extra Try.prog repA_ren where
  sizeBuilder := by kernel_rfl
  liesBuilder := by kernel_rfl
  t5 := Try.underlying5
  a5 := Try.isAgg5
  z5 := Try.sizeOf5
  v5 := Try.zeroValue5
  infoByte := by kernel_rfl
  cellsByte := by kernel_rfl
  sizeByte := by kernel_rfl
  neB5 := by decide
theorem repeat_zer (k : Nat) : (⟨(Lib.repeatL [(0 : UInt8)] k).toArray⟩ : ByteArray) = tx (zerN k) := by
  have h : ∀ k, Lib.repeatL [(0 : UInt8)] k = List.replicate k 0 := fun k => by
    induction k with
    | zero => rfl
    | succ k ih => rw [Lib.repeatL, ih, List.replicate_succ]; rfl
  have e : sl ⟨(Lib.repeatL [(0 : UInt8)] k).toArray⟩ = zerN k := by
    rw [h]
    unfold sl zerN
    simp
  rw [← e, tx_sl]
theorem j_Repeat (k : Nat) (hk : k ≤ 1000000) (w : World) :
    Calls Try.prog 73 #[.string ⟨#[0]⟩, .int .i64 (k : Int)] w fun e w' => e = .returned (.string (tx (zerN k))) ∧ Below w.heap.size w w' := by
  have := Go.Proofs.Any.strings_Repeat repA repX ⟨#[0]⟩ k w (by omega) (by show 1 * k ≤ _; omega)
  rw [← repeat_zer]
  exact this
end Go.Proofs.Ytbobdbdknapdcaa
namespace Go.Proofs.Ytbobdbdknapdcaa
open Go.RowKit Go.Shelf
set_option linter.unusedVariables false

attribute [local go_sem] Oper.semAt_some

theorem piece_txJ (s : ByteArray) (i : Nat) : s.extract (32 * i) (32 * i + 32) = tx (pcJ (sl s) i) := by
  rw [← tx_sl (s.extract (32 * i) (32 * i + 32))]
  congr 1
  simp [pcJ, sl, ByteArray.data_extract, List.map_take, List.map_drop]
set_option maxRecDepth 100000 in
set_option maxHeartbeats 2000000 in
/-- the iterator, for every body that keeps its block -/
theorem j_se_in (n l Gs Ga a k : Nat) (s : ByteArray) (hk : (s.size + 31) / 32 = k) (hs : s.size ≤ 2000) (ha : a ≤ 5000) (J Jx : List Nat → World → Prop) (hn : 2 ≤ n) (W : World) (hJ : AbidesFrom W.heap.size J)
    (hY : ∀ pre i W1, i < k → J pre W1 → pre.length < k → YieldAt Fence.wide (n - 1) Try.prog l #[.int .i64 ((a + i : Nat) : Int), .string (tx (pcJ (fillJ (sl s) k) i))] W1 fun e W' =>
      (e = .returned (.bool true) ∧ J (pre ++ [i]) W' ∧ (∀ o, W1.heap[Ga]? = some o → W'.heap[Ga]? = some o)) ∨ (e = .returned (.bool false) ∧ Jx (pre ++ [i]) W'))
    (hGs : Blk W Gs 9 [.string s]) (hGa : Blk W Ga 3 [.int .i64 (a : Int)]) (h0 : J [] W) :
    CallsIn Fence.wide n Try.prog 72 #[.func (.yield l) #[] #[], .pointer (some ⟨Gs, 0, none⟩), .pointer (some ⟨Ga, 0, none⟩)] W fun e W' => (∃ v, e = .returned v) ∧
      ((∃ ys, ys = List.range k ∧ J ys W') ∨ (∃ pre, True ∧ Jx pre W')) := by
  obtain ⟨Zs, hZs⟩ : ∃ Zs, tx (zerN (32 * k - s.size)) = Zs := ⟨_, rfl⟩
  have hZz : Zs.size = 32 * k - s.size := by rw [← hZs, tx_size, zerN_len]
  obtain ⟨Fd, hFd⟩ : ∃ Fd, s ++ Zs = Fd := ⟨_, rfl⟩
  have hFs : sl Fd = fillJ (sl s) k := by
    rw [← hFd, ← hZs]
    unfold fillJ
    rw [sl_len]
    conv => lhs; rw [← tx_sl s, ← tx_app]
    rw [sl_tx ((sl_bys s).app (zer_bys _))]
    rw [tx_sl]
  have hFz : Fd.size = 32 * k := by rw [← hFd, ByteArray.size_append, hZz]; omega
  have hadd := fun w' => run_string_add_sum (P := Try.prog) w' s Zs (by rw [hZz]; omega)
  rw [hFd] at hadd
  have hrep : ∀ wx, NewBut W wx → Calls Try.prog 73 #[.string ⟨#[0]⟩, .int .i64 (IntKind.i64.wrap (IntKind.i64.wrap ((k : Int) * 32) - (s.size : Int)))] wx fun e w' => e = .returned (.string Zs) ∧ NewBut W w' := fun wx hx => by
    have hz : IntKind.i64.wrap (IntKind.i64.wrap ((k : Int) * 32) - (s.size : Int)) = ((32 * k - s.size : Nat) : Int) := by
      rw [IntKind.wrap_i64, IntKind.wrap_i64]
      omega
    have := j_Repeat (32 * k - s.size) (by omega) wx
    rw [hZs] at this
    rw [hz]
    exact this.mono fun _ _ ⟨e1, e2⟩ => ⟨e1, hx.trans (e2.mono hx.size)⟩
  have hcs : ∀ wx, NewBut W wx → wx.cell? ⟨Gs, 0, none⟩ = some (.string s) := fun wx hx => (hGs.below hx hGs.lt).cell 0
  have c1 := hGs.cell 0
  simp only [List.getElem?_cons_zero] at c1
  have HSF := Lib.hid (fun w => j_sectorsFor (s.size : Int) (by omega) (by omega) k (by omega) w)
  have HREP := Lib.hid hrep
  have HCS := Lib.hid hcs
  have HFS := Lib.hid hFs
  have HFZ := Lib.hid hFz
  have HGA := Lib.hid hGa
  have b1 : (k : Int) ≤ 100 := by omega
  have b2 : (0 : Int) ≤ (k : Int) := by omega
  have b3 : (s.size : Int) ≤ 2000 := by omega
  have b4 : (a : Int) ≤ 5000 := by omega
  have b5 : (Fd.size : Int) ≤ 3200 := by omega
  clear hZs hZz hFd hFs hFz hrep hcs hGs hGa hk hs
  refine callsIn_of_wp Try.func72 rfl trivial ?_ rfl
  simp only [Try.ntmps72, List.size_toArray, List.length_cons, List.length_nil, Nat.reduceAdd, Nat.reduceSub, Array.replicate_succ, Array.replicate_zero, List.push_toArray, List.append_toArray, List.nil_append, List.cons_append]
  gi_wp2_with fail
  refine ⟨trivial, fun h => by simp [Fence.wide] at h, callsIn_wide.2 ((HSF.out _).mono ?_)⟩
  rintro e w1 ⟨rfl, rfl⟩
  gi_wp2_with fail
  refine regionIn_wide_tail (C := NewBut w1) 8 mixed (by kernel_rfl) (by kernel_rfl) (show Below _ _ _ from (Below.refl _ _).drew) ?_
  simp only [List.take_succ_cons, List.take_zero, List.drop_succ_cons, List.drop_zero]
  repeat (first | (refine wpQuiet_load_one rfl 9 _ rfl ⟨Gs, 0, none⟩ rfl (.string s) HCS.out Try.underlying9 rfl ?_) | go_big_quiet_step (fail) | (refine wpQuiet_step (fun K' hK' => ?_); go_simp; first | (refine hK' _ ?_; clear hK' K') | (refine ⟨_, fun _ _ => rfl, hK' _ ?_⟩; clear hK' K') | ((with_reducible refine ⟨_, fun wx hx => HREP.out wx hx, hK' _ ?_⟩); clear hK' K')))
  refine wpQuiet_nil ?_
  intro w5 hb5
  have gA := HGA.out.below hb5 HGA.out.lt
  have gJ0 := hJ _ _ _ none h0 (grown_below hb5) (fun r e => by cases e)
  clear h0 c1
  gi_wp2
  have HA := Lib.hid ha
  clear HREP HCS HSF HGA hadd b3 ha
  gi_loopw [6, 19] (fun _ v wr => ∃ i : Nat, v = .int .i64 (i : Int) ∧ i ≤ k ∧ J (List.range i) wr ∧ Blk wr Ga 3 [.int .i64 (a : Int)]) (fun _ v _ => k - (intOf v).toNat)
  case atStart => exact ⟨0, rfl, Nat.zero_le _, gJ0, gA⟩
  case round =>
    obtain ⟨i, rfl, hi, gJ, gG⟩ := hrel
    clear gJ0 gA
    by_cases hlt : i < k
    · have g1 : (i : Int) < (k : Int) := by omega
      have hca : ∀ wx, NewBut wr wx → wx.cell? ⟨Ga, 0, none⟩ = some (.int .i64 (a : Int)) := fun wx hx => (gG.below hx gG.lt).cell 0
      have HCA := Lib.hid hca
      have hX := piece_txJ Fd i
      rw [HFS.out] at hX
      have hval : ((a + i : Nat) : Int) = (a : Int) + (i : Int) := by omega
      have hFz := HFZ.out
      have f1 : IntKind.i64.wrap ((a : Int) + (i : Int)) = (a : Int) + (i : Int) := by rw [IntKind.wrap_i64]; omega
      have f2 : IntKind.i64.wrap ((i : Int) * 32) = ((32 * i : Nat) : Int) := by rw [IntKind.wrap_i64]; omega
      have f3 : IntKind.i64.wrap ((i : Int) + 1) = (i : Int) + 1 := by rw [IntKind.wrap_i64]; omega
      have f4 : IntKind.i64.wrap (((i : Int) + 1) * 32) = ((32 * i + 32 : Nat) : Int) := by rw [IntKind.wrap_i64]; omega
      have HX := Lib.hid hX
      have HV := Lib.hid hval
      have HI := Lib.hid hlt
      obtain ⟨X, hXX⟩ : ∃ X, tx (pcJ (fillJ (sl s) k) i) = X := ⟨_, rfl⟩
      obtain ⟨lo, hlo⟩ : ∃ lo, 32 * i = lo := ⟨_, rfl⟩
      obtain ⟨hh, hhh⟩ : ∃ hh, lo + 32 = hh := ⟨_, rfl⟩
      rw [hlo] at f2 f4 hX
      rw [hhh] at f4 hX
      have f5 : (lo : Int) ≤ (hh : Int) := by omega
      have f6 : (hh : Int) ≤ (Fd.size : Int) := by omega
      have f7 : Fd.extract lo hh = X := by rw [hX, hXX]
      have HXX := Lib.hid hXX
      have GG := Lib.hid gG
      clear hca gG hX hval hFz hlt hi hlo hhh hXX HX
      gi_wp2_with fail
      refine regionIn_wide_tail (C := NewBut wr) 11 mixed (by kernel_rfl) (by kernel_rfl) (show Below _ _ _ from (Below.refl _ _).drew) ?_
      simp only [List.take_succ_cons, List.take_zero, List.drop_succ_cons, List.drop_zero]
      repeat (first | (refine wpQuiet_load_one rfl 3 _ rfl ⟨Ga, 0, none⟩ rfl (.int .i64 (a : Int)) HCA.out Try.underlying3 rfl ?_) | go_big_quiet_step (fail) | (refine wpQuiet_step (fun K' hK' => ?_); go_simp; first | (refine hK' _ ?_; clear hK' K') | (refine ⟨_, fun _ _ => rfl, hK' _ ?_⟩; clear hK' K')))
      refine wpQuiet_nil ?_
      intro w6 hb6
      have gJ1 := hJ _ wr _ none gJ (grown_below hb6) (fun r e => by cases e)
      have gG1 := GG.out.below hb6 GG.out.lt
      obtain ⟨fn, tmps, assign, body, hy, hR⟩ := hY (List.range i) i w6 HI.out gJ1 (by rw [List.length_range]; exact HI.out)
      rw [← List.range_succ] at hR
      rw [HV.out, HXX.out] at hy
      have HR := Lib.hid hR
      clear hR gJ gJ1 hY
      gi_wp2
      first | refine HR.out.mono ?_ | refine ⟨fun _ => by omega, HR.out.mono ?_⟩
      rintro e W3 (⟨rfl, hJ3, hG3⟩ | ⟨rfl, hJx3⟩)
      · have HG3 := Lib.hid (hG3 _ gG1)
        have HJ3 := Lib.hid hJ3
        clear hG3 hJ3 HR
        gi_wp2
        go_roundw
        case rel => exact ⟨i + 1, by go_num, HI.out, HJ3.out, HG3.out⟩
        case measure => (have := HI.out; simp [intOf]; omega)
      · gi_wp2
        refine bodyPost_ret (results_none rfl _ _ _) rfl ?_
        exact ⟨⟨_, rfl⟩, .inr ⟨_, trivial, hJx3⟩⟩
    · have g1 : ¬ (i : Int) < (k : Int) := by omega
      obtain rfl : k = i := by omega
      have HJ := Lib.hid gJ
      clear gJ
      gi_wp2
      go_end0
      exact ⟨⟨_, rfl⟩, .inl HJ.out⟩
theorem j_sectors (a : Nat) (s : ByteArray) (w : World) :
    Calls Try.prog 58 #[.int .i64 (a : Int), .string s] w fun e w' => e = .returned (.func (.func 72) #[] #[.pointer (some ⟨w.heap.size + 1, 0, none⟩), .pointer (some ⟨w.heap.size, 0, none⟩)]) ∧ w' = (w.alloc (.cells #[.int .i64 (a : Int)] 3)).alloc (.cells #[.string s] 9) := by
  go_enter Try.func58, Try.ntmps58
  go_wp2
  go_ret
  exact ⟨rfl, rfl⟩
theorem j_sstops (n Gs Ga a k : Nat) (s : ByteArray) (hk : (s.size + 31) / 32 = k) (hs : s.size ≤ 2000) (ha : a ≤ 5000) (hn : 2 ≤ n) (w : World) (hGs : Blk w Gs 9 [.string s]) (hGa : Blk w Ga 3 [.int .i64 (a : Int)]) :
    SeqStopsK Fence.wide n Try.prog 72 #[.pointer (some ⟨Gs, 0, none⟩), .pointer (some ⟨Ga, 0, none⟩)] (fun i : {i : Nat // i < k} => #[.int .i64 ((a + i.val : Nat) : Int), Value.string (tx (pcJ (fillJ (sl s) k) i.val))]) (fun A B => ∀ o, A.heap[Ga]? = some o → B.heap[Ga]? = some o) (fun ys => ys.map (·.val) = List.range k) (fun _ => True) k w := fun l J Jx W hW hJ _ hY h0 => by
  refine (j_se_in n l Gs Ga a k s hk hs ha (fun pre W => ∃ ys : List ({i : Nat // i < k}), ys.map (·.val) = pre ∧ J ys W) (fun pre W => ∃ ys : List ({i : Nat // i < k}), ys.map (·.val) = pre ∧ Jx ys W) hn W ?_ ?_ (hGs.below hW hGs.lt) (hGa.below hW hGa.lt) ⟨[], rfl, h0⟩).mono ?_
  · rintro pre X Y row ⟨ys, e, h⟩ hg hr
    exact ⟨ys, e, hJ ys X Y row h hg hr⟩
  · rintro pre x W1 hx ⟨ys, rfl, h⟩ hlt
    refine (hY ys ⟨x, hx⟩ W1 h (by simpa using hlt)).mono ?_
    rintro e W' (⟨h1, h2, h3⟩ | ⟨h1, h2⟩)
    · exact .inl ⟨h1, ⟨_, by simp, h2⟩, h3⟩
    · exact .inr ⟨h1, ⟨_, by simp, h2⟩⟩
  · rintro e W' ⟨h1, (⟨_, h2, ys, h3, h4⟩ | ⟨_, h2, ys, h3, h4⟩)⟩
    · exact ⟨h1, .inl ⟨ys, h3.trans h2, h4⟩⟩
    · exact ⟨h1, .inr ⟨ys, trivial, h4⟩⟩
end Go.Proofs.Ytbobdbdknapdcaa
namespace Go.Proofs.Ytbobdbdknapdcaa
open Go.RowKit Go.Shelf
set_option linter.unusedVariables false

attribute [local go_sem] Oper.semAt_some

/-- a disk's own blocks are cells, all but its map -/
theorem DkW.cellsOr {w : World} {base D S M k : Nat} {E : DataW Unit} {V : Nat → Value} {q : Option (Nat × Int)} {d : DiskM} (h : DkW w base D S M k E V q d) {i : Nat} (hi : foot D S M V q i) : i = M ∨ ∀ o, w.heap[i]? = some o → o.isCells = true := by
  have hblk : ∀ {b : Nat} {t : TypeId} {vs : List Value}, Blk w b t vs → ∀ o, w.heap[b]? = some o → o.isCells = true := fun hb o ho => by
    unfold Blk at hb
    rw [hb] at ho
    cases ho
    rfl
  rcases hi with e | e | e | e | ⟨j, e⟩
  · exact .inr (e ▸ hblk h.blk)
  · exact .inr (e ▸ hblk h.sec)
  · exact .inl e
  · obtain ⟨⟨L, l⟩, e1, e2⟩ := Option.map_eq_some_iff.1 e
    obtain rfl : L = i := e2
    exact .inr (hblk (h.left _ _ e1).1)
  · refine .inr fun o ho => ?_
    rcases (h.own j).2.2 with ⟨hv, _⟩ | ⟨g, cap, cur, hv, hg, hh, r⟩
    · rw [hv] at e; cases e
    · rw [hv] at e
      cases e
      rw [hh] at ho
      cases ho
      rfl
/-- all that is known of a disk that is being written to -/
def DkA (base : Nat) (w : World) (W : World) (D S M : Nat) (F : Nat → Prop) (d : DiskM) : Prop :=
  ∃ k E V q, DkW W base D S M k E V q d ∧ Turn base w W F (foot D S M V q)
theorem DkA.kept {base : Nat} {w W W' : World} {D S M : Nat} {F : Nat → Prop} {d : DiskM} {B : Nat} {row : Option Nat} (h : DkA base w W D S M F d) (hw : base ≤ w.heap.size) (hM : M < B) (hB : w.heap.size ≤ B) (hg : W.grownBy W' row)
    (hr : ∀ r, row = some r → B ≤ r ∧ ∃ o : Obj, W.heap[r]? = some o ∧ o.isCells = false) : DkA base w W' D S M F d := by
  obtain ⟨k, E, V, q, h1, h2⟩ := h
  refine ⟨k, E, V, q, h1.keep fun i hi => hg.block i (h1.lt i hi).2 fun e => ?_, ⟨h2.b.grown hg (Nat.le_trans hw h2.b.size) (fun r e => by have := (hr r e).1; omega), fun i hi hn => (hg.block i (by have := h2.b.size; omega) (fun e => by have := (hr i e.symm).1; omega)).trans (h2.out i hi hn), h2.new⟩⟩
  obtain ⟨hb, o, ho, hc⟩ := hr i e.symm
  rcases h1.cellsOr hi with rfl | hx
  · omega
  · rw [hx o ho] at hc; cases hc
theorem KeepsFrom.of_turn {base B : Nat} {W W' : World} {D S M k : Nat} {E : DataW Unit} {V : Nat → Value} {q : Option (Nat × Int)} {d : DiskM} {F' : Nat → Prop} (h : DkW W base D S M k E V q d) (hM : M < B) (t : Turn base W W' (foot D S M V q) F') : KeepsFrom B W W' :=
  ⟨t.b.size, fun i o hi ho hc => by
    refine (t.out i (Array.getElem?_eq_some_iff.1 ho).1 fun hf => ?_).trans ho
    rcases h.cellsOr hf with rfl | hx
    · omega
    · rw [hx o ho] at hc; cases hc⟩
theorem DkA.below {base : Nat} {w W W' : World} {D S M : Nat} {F : Nat → Prop} {d : DiskM} (h : DkA base w W D S M F d) (hb : Below W.heap.size W W') (hw : base ≤ w.heap.size) : DkA base w W' D S M F d := by
  obtain ⟨k, E, V, q, h1, h2⟩ := h
  exact ⟨k, E, V, q, h1.below hb, h2.trans (Turn.of_below hb (Nat.le_trans hw h2.b.size))⟩
/-- a block of another type is none of a disk's, where power lasts -/
theorem DkW.notTy {w : World} {base D S M k : Nat} {E : DataW Unit} {V : Nat → Value} {q : Option (Nat × Int)} {d : DiskM} (h : DkW w base D S M k E V q d) (hcut : d.cut = false) {b : Nat} {ty : TypeId} {vs : List Value} (hb : Blk w b ty vs) (h1 : ty ≠ 45) (h2 : ty ≠ 135) : ¬ foot D S M V q b := by
  have hb' := hb
  unfold Blk at hb'
  rintro (rfl | rfl | rfl | e | ⟨j, e⟩)
  · have h3 := h.blk
    unfold Blk at h3
    rw [hb'] at h3
    cases h3
    exact h1 rfl
  · have h3 := h.sec
    unfold Blk at h3
    rw [hb'] at h3
    cases h3
    exact h2 rfl
  · obtain ⟨es, clock, hm, _⟩ := h.pen.map
    rw [hb'] at hm
    simp at hm
  · obtain ⟨⟨L, l⟩, e1, e2⟩ := Option.map_eq_some_iff.1 e
    have hp := h.pw
    rw [e1] at hp
    exact hp
  · exact (h.own j).ne hb h2 b e rfl
theorem results_cell1 {P : Program} {fn : Func} {p : Tmp} {ty : TypeId} (h : fn.results = #[.cell p ty]) (tmps : Array Value) (w : World) (g : Nat)
    (hp : tmps.getD p undef = .pointer (some ⟨g, 0, none⟩)) {x : Value} {d : TypeDesc} (hc : w.cell? ⟨g, 0, none⟩ = some x)
    (hu : P.underlying ty = some d) (hd : d.isRow = false) : (results fn tmps).run P w = .ok x w := by
  have hp' : tmps[p]?.getD undef = .pointer (some ⟨g, 0, none⟩) := by simpa using hp
  simp [results, h, hp', asAddr, run_loadVar_one w _ ty x d hc hu hd]
theorem cut_on {d : DiskM} (h : d.cut = false) : offD d = false := by unfold offD; rw [h]; rfl
set_option maxRecDepth 100000 in
set_option maxHeartbeats 2000000 in
theorem j_putA {w : World} {base D S M k : Nat} {E : DataW Unit} {V : Nat → Value} {q : Option (Nat × Int)} {d : DiskM} {K : Nat} (h : DkW w base D S M k E V q d) (hd : DkN d K) (hK : K ≤ 60000) (hcut : d.cut = false) (fr te a n : Nat) (s : ByteArray) (hs : s.size ≤ 1100) (hn : (s.size + 31) / 32 = n) (han : a + n ≤ d.sec.length) (d' : DiskM) (hd' : putD d a n (sl s) = d') :
    Calls Try.prog 42 #[.agg (arV D fr te).toArray, .int .i64 (a : Int), .string s] w fun x w' => x = .returned (.int .i64 0) ∧ DkA base w w' D S M (foot D S M V q) d' := by
  have hw : base ≤ w.heap.size := by have := h.blk.lt; have := h.hD; omega
  have hMl : M < w.heap.size := (h.lt M (.inr (.inr (.inl rfl)))).2
  have hsec := hd.sec
  obtain ⟨p, hp⟩ : ∃ p, fillJ (sl s) n = p := ⟨_, rfl⟩
  have hpl : p.length = 32 * n := by rw [← hp]; exact fill_len (by rw [sl_len]; omega)
  have hpb : Bys p := by rw [← hp]; exact fill_bys (sl_bys s) n
  obtain ⟨F, hF⟩ : ∃ F, foot D S M V q = F := ⟨_, rfl⟩
  have hfl : ∀ i, F i → i < w.heap.size := fun i hi => by rw [← hF] at hi; exact (h.lt i hi).2
  obtain ⟨Z, hZ⟩ : ∃ Z, w.heap.size = Z := ⟨_, rfl⟩
  have A0 : DkA base w w D S M F d := ⟨k, E, V, q, h, hF ▸ Turn.refl base w _⟩
  have HA0 := Lib.hid A0
  have HW := Lib.hid hw
  have HM := Lib.hid hMl
  have HFL := Lib.hid hfl
  have HZ := Lib.hid hZ
  have HPL := Lib.hid hpl
  have HPB := Lib.hid hpb
  have HP := Lib.hid hp
  have HD := Lib.hid hd
  have HK := Lib.hid hK
  have HC := Lib.hid hcut
  have HAN := Lib.hid han
  have HN := Lib.hid hn
  have HS := Lib.hid hs
  have HD' := Lib.hid hd'
  rw [hF]
  have hZ1 : Blk (w.alloc (.cells (arV D fr te).toArray 93)) Z 93 (arV D fr te) := by rw [← hZ]; exact Blk.new w _ _
  clear h hd hK hcut hs hn han hd' hw hMl hsec hp hpl hpb hF hfl A0
  refine (callsIn_wide (n := 9)).1 (callsIn_of_wp_marks Try.func42 rfl trivial ?_ rfl)
  simp only [Try.ntmps42, List.size_toArray, List.length_cons, List.length_nil, Nat.reduceAdd, Nat.reduceSub, Array.replicate_succ, Array.replicate_zero, List.push_toArray, List.append_toArray, List.nil_append, List.cons_append]
  refine wpIn_wide.2 ?_
  go_wp2_with (go_at_call 58; (with_reducible refine (j_sectors _ _ _).mono ?_); rintro e w9 ⟨rfl, rfl⟩)
  have K0 := ((hZ1.alloc (.cells #[.int .i64 0] 26)).alloc (.cells #[.int .i64 (a : Int)] 3)).alloc (.cells #[.string s] 9)
  have K1 := ((Blk.newAt (w.alloc (.cells (arV D fr te).toArray 93)) (Z + 1) (by simp [hZ]) 26 (c := #[.int .i64 0]) [.int .i64 0] rfl).alloc (.cells #[.int .i64 (a : Int)] 3)).alloc (.cells #[.string s] 9)
  have K2 := (Blk.newAt ((w.alloc (.cells (arV D fr te).toArray 93)).alloc (.cells #[.int .i64 0] 26)) (Z + 1 + 1) (by simp [hZ]) 3 (c := #[.int .i64 (a : Int)]) [.int .i64 (a : Int)] rfl).alloc (.cells #[.string s] 9)
  have K3 := Blk.newAt (((w.alloc (.cells (arV D fr te).toArray 93)).alloc (.cells #[.int .i64 0] 26)).alloc (.cells #[.int .i64 (a : Int)] 3)) (Z + 1 + 1 + 1) (by simp [hZ]) 9 (c := #[.string s]) [.string s] rfl
  have Kb := ((((Below.refl w.heap.size w).alloc (Nat.le_refl _) (.cells (arV D fr te).toArray 93)).alloc (by simp) (.cells #[.int .i64 0] 26)).alloc (by simp; omega) (.cells #[.int .i64 (a : Int)] 3)).alloc (by simp; omega) (.cells #[.string s] 9)
  have Kn : ((((w.alloc (.cells (arV D fr te).toArray 93)).alloc (.cells #[.int .i64 0] 26)).alloc (.cells #[.int .i64 (a : Int)] 3)).alloc (.cells #[.string s] 9)).heap.size = Z + 4 := by simp [hZ]
  clear hZ1
  generalize World.alloc (World.alloc (World.alloc (World.alloc w _) _) _) _ = w5 at *
  have A5 := HA0.out.below Kb HW.out
  have hKb : ∀ (W : World) (l : Nat) (o o' : Obj), w5.heap.size ≤ l → W.heap[l]? = some o → o.isCells = false → o.isWalk = false → ∀ o2, W.heap[Z + 1 + 1]? = some o2 → (W.putObj l o').heap[Z + 1 + 1]? = some o2 := fun W l o o' hl _ _ _ o2 ho2 =>
    (World.putObj_heap_other (by omega)).trans ho2
  have hM5 : M < w5.heap.size := by have := HM.out; have := HZ.out; omega
  have hw5 : w.heap.size ≤ w5.heap.size := by have := HZ.out; omega
  have HKN := Lib.hid Kn
  have HM5 := Lib.hid hM5
  have HW5 := Lib.hid hw5
  refine (wpIn_wide (n := 9)).1 ?_
  refine wpIn_rangeFunc_ownG (F := Fence.wide) (n := 9) rfl (by omega) (gf := 72) (lb := #[.pointer (some ⟨Z + 1 + 1 + 1, 0, none⟩), .pointer (some ⟨Z + 1 + 1, 0, none⟩)]) rfl trivial (enters_of Try.func72 (by kernel_rfl) rfl)
    (j_sstops 8 (Z + 1 + 1 + 1) (Z + 1 + 1) a n s HN.out (by have := HS.out; omega) (by have := HAN.out; have := HD.out.sec; omega) (by omega) w5 K3 K2) (fun h k o ho => k o (h o ho)) hKb (Below.refl _ _) (fun _ => rfl)
    (fun pre W => DkA base w W D S M F (wrsJ d a p (pre.map (·.val))) ∧ Blk W Z 93 (arV D fr te) ∧ Blk W (Z + 1) 26 [.int .i64 0] ∧ Blk W (Z + 1 + 1) 3 [.int .i64 (a : Int)])
    (fun _ _ _ => False)
    (fun pre W W' row ⟨h1, h2, h3, h4⟩ hg hr => ⟨h1.kept HW.out HM5.out HW5.out hg hr, h2.kept hg (fun r e => (hr r e).2), h3.kept hg (fun r e => (hr r e).2), h4.kept hg (fun r e => (hr r e).2)⟩)
    (fun _ _ _ _ _ hs _ _ => hs)
    ⟨A5, K0, K1, K2⟩
    (fun x => { tmps := #[.agg (arV D fr te).toArray, .int .i64 (a : Int), .string s, .pointer (some ⟨Z, 0, none⟩), undef, undef, .pointer (some ⟨Z + 1, 0, none⟩), .int .i64 ((a + x.val : Nat) : Int), .string (tx (pcJ (fillJ (sl s) n) x.val)), undef, .int .i64 (a : Int), .string s, .func (.func 72) #[] #[.pointer (some ⟨Z + 1 + 1 + 1, 0, none⟩), .pointer (some ⟨Z + 1 + 1, 0, none⟩)], .int .i64 ((a + x.val : Nat) : Int), .string (tx (pcJ (fillJ (sl s) n) x.val)), undef, undef, undef, undef, undef, undef, undef, undef, undef, undef, undef], defers := [] }) ?assign ?body ?done ?stop
  case assign =>
    intro lp x W K hK
    gi_wp2
    exact hK
  case body =>
    rintro lp pre ⟨i, hi⟩ W ⟨⟨k', E', V', q', hx, ht⟩, h1, h2, h3⟩ hlt
    have hsec := (wrsJ_sec a p (pre.map (·.val)) d).1
    have hcut : (wrsJ d a p (pre.map (·.val))).cut = false := by rw [(wrsJ_sec a p (pre.map (·.val)) d).2]; exact HC.out
    have hdn := dkn_wrs HPL.out HPB.out (pre.map (·.val)) HD.out HAN.out (fun j hj => by obtain ⟨⟨x, hx⟩, _, rfl⟩ := List.mem_map.1 hj; exact hx)
    rw [List.length_map] at hdn
    have hn36 : n ≤ 36 := by have := HN.out; have := HS.out; omega
    have hdb := hdn.b (by have := HK.out; omega)
    have hlt2 : a + i < (wrsJ d a p (pre.map (·.val))).sec.length := by rw [hsec]; have := HAN.out; omega
    have hpl := pc_len HPL.out hi
    have hpb := pc_bys HPB.out i
    have hsx := sl_tx hpb
    have hzx : (tx (pcJ p i)).size = 32 := by rw [tx_size, hpl]
    obtain ⟨e1, e2⟩ := wr_on hlt2 hpl (cut_on hcut)
    rw [← wrsJ_snoc] at e2
    have hsn : (pre ++ [(⟨i, hi⟩ : {i : Nat // i < n})]).map (·.val) = pre.map (·.val) ++ [i] := by simp
    have HWR := Lib.hid (d_Write hx hdb ((a + i : Nat) : Int) (wf_small (a + i) (by have := hdb.sec; omega)) (tx (pcJ p i)) 0 (wrsJ d a p (pre.map (·.val) ++ [i])) (by rw [← e1, hpl, hzx]) (by rw [hsx, e2]))
    have HX := Lib.hid hx
    have HT := Lib.hid ht
    have HSN := Lib.hid hsn
    have H1 := Lib.hid h1
    have H2 := Lib.hid h2
    have H3 := Lib.hid h3
    have HCU := Lib.hid hcut
    have c0 := h1.cell 0
    unfold arV ptD at c0
    simp only [List.getElem?_cons_zero] at c0
    unfold ptD at HWR
    clear hx ht h1 h2 h3 hlt hsec hcut hdn hn36 hdb hlt2 hpl hpb hsx hzx e1 e2 hsn K0 K1 K2 K3 Kb Kn A5 hKb hM5 hw5 hZ
    dsimp only
    rw [HP.out]
    generalize tx (pcJ p i) = X at *
    generalize ((a + i : Nat) : Int) = ai at *
    gi_wp2_with fail
    refine ⟨trivial, ?_⟩
    change CallsIn Fence.wide _ _ _ _ _ _
    refine callsIn_wide.2 (HWR.out.mono ?_)
    rintro e w6 ⟨rfl, k6, E6, V6, q6, h6, t6⟩
    have hk := KeepsFrom.of_turn HX.out HM5.out t6
    have r1 := t6.blk H1.out (HX.out.notTy HCU.out H1.out (by decide) (by decide))
    have r2 := t6.blk H2.out (HX.out.notTy HCU.out H2.out (by decide) (by decide))
    have r3 := t6.blk H3.out (HX.out.notTy HCU.out H3.out (by decide) (by decide))
    have hfin : KeepsFrom w5.heap.size W w6 ∧ (∀ o, W.heap[Z + 1 + 1]? = some o → w6.heap[Z + 1 + 1]? = some o) ∧ DkA base w w6 D S M F (wrsJ d a p ((pre ++ [(⟨i, hi⟩ : {i : Nat // i < n})]).map (·.val))) ∧ Blk w6 Z 93 (arV D fr te) ∧ Blk w6 (Z + 1) 26 [.int .i64 0] ∧ Blk w6 (Z + 1 + 1) 3 [.int .i64 (a : Int)] := by
      refine ⟨hk, fun o ho => ?_, ?_, r1, r2, r3⟩
      · have e := H3.out
        unfold Blk at e
        rw [e] at ho
        cases ho
        exact r3
      · rw [HSN.out]
        exact ⟨k6, E6, V6, q6, h6, HT.out.trans t6⟩
    have HFin := Lib.hid hfin
    clear hk r1 r2 r3 hfin h6 t6
    gi_wp2
    exact HFin.out
  case done =>
    rintro Dd ys W hD hys ⟨⟨k', E', V', q', hx, ht⟩, h1, h2, h3⟩ hK
    rw [hys, wrsJ_all] at hx
    have hsec : (writesD d a (chunksK n p)).sec = d.sec := writes_sec _ _ _
    have hcut : (writesD d a (chunksK n p)).cut = false := by rw [writes_cut]; exact HC.out
    have hdn := dkn_wrs HPL.out HPB.out (List.range n) HD.out HAN.out (fun j hj => List.mem_range.1 hj)
    rw [wrsJ_all, List.length_range] at hdn
    have hn36 : n ≤ 36 := by have := HN.out; have := HS.out; omega
    have hdb := hdn.b (by have := HK.out; omega)
    obtain ⟨e1, e2⟩ := sy_on (cut_on hcut)
    have hd' := HD'.out
    unfold putD at hd'
    rw [HP.out] at hd'
    have HSY := Lib.hid (d_Sync hx hdb 0 d' e1 (e2.trans hd'))
    have HX := Lib.hid hx
    have HT := Lib.hid ht
    have H1 := Lib.hid h1
    have H2 := Lib.hid h2
    have HCU := Lib.hid hcut
    have HKK := Lib.hid hK
    have HDD := Lib.hid hD
    have c0 := h1.cell 0
    unfold arV ptD at c0
    simp only [List.getElem?_cons_zero] at c0
    unfold ptD at HSY
    clear hx ht h1 h2 h3 hK hys hsec hcut hdn hn36 hdb e1 e2 hd' K0 K1 K2 K3 Kb Kn A5 hKb hM5 hw5 hZ hD
    go_wp2_with fail
    refine HSY.out.mono ?_
    rintro e w6 ⟨rfl, k6, E6, V6, q6, h6, t6⟩
    have r2 := t6.blk H2.out (HX.out.notTy HCU.out H2.out (by decide) (by decide))
    have cE := r2.cell 0
    have fE := r2.free 0
    simp only [List.getElem?_cons_zero] at cE
    have hKd : w6.heap[Dd]? = some (.deferred (some [])) := by
      refine (t6.out Dd (Array.getElem?_eq_some_iff.1 HKK.out).1 fun hf => ?_).trans HKK.out
      rcases HX.out.cellsOr hf with rfl | hx
      · have := HM5.out; have := HDD.out; omega
      · have := hx _ HKK.out; cases this
    have hcut' : d'.cut = false := by
      rw [← HD'.out]
      unfold putD syncD
      show (writesD _ _ _).cut = false
      rw [writes_cut]
      exact HC.out
    have nE := h6.notTy hcut' r2 (by decide) (by decide)
    have A6 : DkA base w (w6.setCell ⟨Z + 1, 0, none⟩ (.int .i64 0)) D S M F d' := by
      refine ⟨k6, E6, V6, q6, h6.keep fun i hi => Below.heap_setCell _ _ _ i (fun e => nE (by have e' : i = Z + 1 := e; rw [← e']; exact hi)), ?_⟩
      exact (HT.out.trans t6).then ((Below.refl w.heap.size w6).setCell (p := ⟨Z + 1, 0, none⟩) (by have := HZ.out; show w.heap.size ≤ Z + 1; omega) _) HW.out (fun i hi => .inl hi)
    have rE := r2.set 0 (.int .i64 0)
    have hDd : Dd ≠ Z + 1 := by have := HDD.out; have := HKN.out; omega
    have hKd2 : (w6.setCell ⟨Z + 1, 0, none⟩ (.int .i64 0)).heap[Dd]? = some (.deferred (some [])) := (Below.heap_setCell _ _ _ Dd hDd).trans hKd
    have HA6 := Lib.hid A6
    have HRE := Lib.hid rE
    have HK2 := Lib.hid hKd2
    clear r2 hKd hcut' nE A6 rE hDd hKd2 h6 t6
    go_wp2
    have hK := HK2.out
    refine ⟨by simp, .inl ⟨_, _, rfl, run_takeDeferred hK, ?_⟩⟩
    have hg := grownBy_putObj' (w6.setCell ⟨Z + 1, 0, none⟩ (.int .i64 0)) Dd (.deferred none)
    have rF := HRE.out.kept hg (fun r e => by cases e; exact ⟨_, hK, rfl⟩)
    exact ⟨_, results_cell1 rfl _ _ (Z + 1) rfl (rF.cell 0) Try.underlying26 rfl, rfl, HA6.out.kept HW.out HM5.out HW5.out hg (fun r e => by cases e; exact ⟨HDD.out, _, hK, rfl⟩)⟩
  case stop =>
    rintro Dd c pre W _ _ h _
    exact h.elim
end Go.Proofs.Ytbobdbdknapdcaa
namespace Go.Proofs.Ytbobdbdknapdcaa
open Go.RowKit Go.Shelf
set_option linter.unusedVariables false

theorem putD_zero (d : DiskM) (a : Nat) : putD d a 1 [0] = syncD (writeD d a (zerN 32)) := by
  have : chunksK 1 (fillJ [0] 1) = [zerN 32] := by decide
  unfold putD
  rw [this]
  rfl
theorem DkA.after {base : Nat} {w W W' : World} {D S M : Nat} {F F' : Nat → Prop} {d : DiskM} (h : DkA base W W' D S M F' d) (t : Turn base w W F F') : DkA base w W' D S M F d := by
  obtain ⟨k, E, V, q, h1, h2⟩ := h
  exact ⟨k, E, V, q, h1, t.trans h2⟩
set_option maxRecDepth 100000 in
theorem j_blank {w : World} {base D S M k : Nat} {E : DataW Unit} {V : Nat → Value} {q : Option (Nat × Int)} {d : DiskM} {K : Nat} (h : DkW w base D S M k E V q d) (hd : DkN d K) (hK : K ≤ 60000) (hcut : d.cut = false) (fr te a : Nat) (ha : a ≤ 5000) (hte : te ≤ d.sec.length) (d1 : DiskM) (hd1 : (if a < te then syncD (writeD d a (zerN 32)) else d) = d1) :
    Calls Try.prog 41 #[.agg (arV D fr te).toArray, .int .i64 (a : Int)] w fun x w' => x = .returned (.int .i64 0) ∧ DkA base w w' D S M (foot D S M V q) d1 := by
  have hw : base ≤ w.heap.size := by have := h.blk.lt; have := h.hD; omega
  obtain ⟨w1, hw1⟩ : ∃ w1, w.alloc (.cells (arV D fr te).toArray 93) = w1 := ⟨_, rfl⟩
  have hb1 : Below w.heap.size w w1 := by rw [← hw1]; exact (Below.refl w.heap.size w).alloc (Nat.le_refl _) _
  have k1 : Blk w1 w.heap.size 93 (arV D fr te) := by rw [← hw1]; exact Blk.new w _ _
  obtain ⟨h1, t1⟩ := h.turn hb1
  have c2 := k1.cell 2
  unfold arV ptD at c2
  simp only [List.getElem?_cons_zero, List.getElem?_cons_succ] at c2
  have K1 := Lib.hid k1
  by_cases hlt : a < te
  · rw [if_pos hlt] at hd1
    have g1 : ¬ (te : Int) ≤ (a : Int) := by omega
    have HP := Lib.hid (j_putA h1 hd hK hcut fr te a 1 ⟨#[0]⟩ (by decide) (by decide) (by omega) d1 (by rw [show sl ⟨#[0]⟩ = [0] from rfl, putD_zero]; exact hd1))
    have T1 := Lib.hid t1
    clear h hd hK hcut ha hte hd1 hlt hb1 k1 h1 t1 hw
    go_enter Try.func41, Try.ntmps41
    go_wp2_with (refine wpList_load_blk rfl 93 _ rfl _ rfl K1.out Try.underlying93 rfl (by rw [size_ar]; rfl) ?_)
    (with_reducible refine HP.out.mono ?_)
    rintro e w2 ⟨rfl, h2⟩
    have H2 := Lib.hid (h2.after T1.out)
    clear h2
    go_wp2
    go_ret
    exact ⟨rfl, H2.out⟩
  · rw [if_neg hlt] at hd1
    subst hd1
    have g1 : (te : Int) ≤ (a : Int) := by omega
    have A1 : DkA base w w1 D S M (foot D S M V q) d := ⟨k, E, V, q, h1, t1⟩
    have HA := Lib.hid A1
    clear h hd hK hcut ha hte hlt hb1 k1 h1 t1 hw A1
    go_enter Try.func41, Try.ntmps41
    go_wp2
    go_ret
    exact ⟨rfl, HA.out⟩
set_option maxRecDepth 100000 in
theorem j_Clear {w : World} {base D S M k : Nat} {E : DataW Unit} {V : Nat → Value} {q : Option (Nat × Int)} {d : DiskM} {K : Nat} (h : DkW w base D S M k E V q d) (hd : DkN d K) (hK : K ≤ 60000) (hcut : d.cut = false) (fr te : Nat) (hlt : fr < te) (hte : te ≤ d.sec.length) (d1 : DiskM) (hd1 : clD d fr = d1) :
    Calls Try.prog 30 #[ptD D, .int .i64 (fr : Int), .int .i64 (te : Int)] w fun x w' => x = .returned (.int .i64 0) ∧ DkA base w w' D S M (foot D S M V q) d1 := by
  have hsec := hd.sec
  have HAR := Lib.hid (j_areaOf h hsec fr te hlt hte)
  have HBE := Lib.hid (fun (wx wy : World) (hx : DkW wx base D S M k E V q d) (hb : Below wx.heap.size wx wy) => hx.turn hb)
  have HBL := Lib.hid (fun (wx : World) (hx : DkW wx base D S M k E V q d) => j_blank hx hd hK hcut fr te fr (by omega) hte d1 (by rw [if_pos hlt]; exact hd1))
  have H0 := Lib.hid h
  unfold ptD at HAR ⊢
  clear h hd hK hcut hlt hte hd1 hsec
  go_enter Try.func30, Try.ntmps30
  go_wp2_with fail
  (with_reducible refine HAR.out.mono ?_)
  rintro e w2 ⟨rfl, hb2⟩
  obtain ⟨h2, t2⟩ := HBE.out w w2 H0.out hb2
  obtain ⟨w3, hw3⟩ : ∃ w3, (w2.alloc (.cells #[.pointer none, .int .i64 0, .int .i64 0] 93)).setRow w2.heap.size (arV D fr te).toArray = w3 := ⟨_, rfl⟩
  have k1 : Blk (w2.alloc (.cells #[.pointer none, .int .i64 0, .int .i64 0] 93)) w2.heap.size 93 [.pointer none, .int .i64 0, .int .i64 0] := Blk.new w2 _ _
  have k2 : Blk w3 w2.heap.size 93 (arV D fr te) := by rw [← hw3]; exact k1.row (arV D fr te) rfl
  have kb : Below w2.heap.size w2 w3 := by rw [← hw3]; exact below_setRow ((Below.refl w2.heap.size w2).alloc (Nat.le_refl _) _) (Nat.le_refl _) _
  obtain ⟨h3, t3⟩ := HBE.out w2 w3 h2 kb
  have T3 := Lib.hid (t2.trans t3)
  have K1 := Lib.hid k1
  have K2 := Lib.hid k2
  have HT := Lib.hid (HBL.out w3 h3)
  obtain ⟨AB, hAB⟩ : ∃ AB, w2.heap.size = AB := ⟨_, rfl⟩
  rw [hAB] at K1 K2
  rw [hAB] at hw3
  clear hb2 h2 t2 kb h3 t3 k1 k2 HBL HAR H0
  go_wp2_with (first | (refine wpList_store_blk rfl 93 _ _ rfl AB (arV D fr te) (by first | rfl | rw [hAB]) rfl K1.out (by rw [size_ar]; rfl) rfl (by simp [Value.oneCell', arV, ptD]) ?_; rw [hw3]) | (refine wpList_load_blk rfl 93 _ rfl AB rfl K2.out Try.underlying93 rfl (by rw [size_ar]; rfl) ?_))
  (with_reducible refine HT.out.mono ?_)
  rintro e w4 ⟨rfl, h4⟩
  have H4 := Lib.hid (h4.after T3.out)
  clear h4
  go_wp2
  go_ret
  exact ⟨rfl, H4.out⟩
end Go.Proofs.Ytbobdbdknapdcaa
namespace Go.Proofs.Ytbobdbdknapdcaa
open Go.RowKit Go.Shelf
set_option linter.unusedVariables false

theorem ju_area {w : World} {J D : Nat} {m : JurM} (h : Blk w J 95 (juV D m)) : ∀ j v, (arV D m.fr m.to)[j]? = some v → w.cell? ((⟨J, 0, none⟩ : Addr).add j) = some v := fun j v hv => by
  rw [Addr.add_mid]
  refine h.whole j v ?_
  have e : juV D m = arV D m.fr m.to ++ [.int .i64 (m.nx : Int)] := rfl
  rw [e, List.getElem?_append_left (List.getElem?_eq_some_iff.1 hv).1]
  exact hv
theorem dkn_apD1 {d : DiskM} {K : Nat} (h : DkN d K) (m : JurM) (n : Nat) (ht : m.to ≤ d.sec.length) : DkN (apD1 d m n) (K + 2) ∧ (apD1 d m n).cut = d.cut := by
  unfold apD1
  split
  · exact ⟨dkn_sync1 (dkn_write1 h (by omega) (zerN_len 32) (zer_bys 32)), rfl⟩
  · exact ⟨h.more (by omega), rfl⟩
theorem apD_put (d : DiskM) (m : JurM) (s : ByteArray) (h : secK s.size ≤ m.to - m.nx) : putD (apD1 d m s.size) m.nx (secK s.size) (sl (tx (frameK (sl s)))) = apD d m (sl s) := by
  rw [sl_tx (frame_bys (sl_bys s))]
  unfold apD putD apE
  rw [sl_len, if_pos (by rw [if_pos h])]
  unfold fillJ padK
  rw [frame_len, sl_len]
set_option maxRecDepth 100000 in
theorem j_Append_full {w : World} {D J : Nat} {m : JurM} (hJ : Blk w J 95 (juV D m)) (hm : m.nx ≤ m.to ∧ m.to ≤ 4096) (s : ByteArray) (hs : s.size ≤ 1024) (hroom : ¬ secK s.size ≤ m.to - m.nx) :
    Calls Try.prog 20 #[ptD J, .string s] w fun x w' => x = .returned (.int .i64 2) ∧ Below w.heap.size w w' := by
  obtain ⟨fr, te, nx⟩ := m
  dsimp only at *
  obtain ⟨f, hf⟩ : ∃ f, tx (frameK (sl s)) = f := ⟨_, rfl⟩
  have hfz : f.size = 6 + s.size := by rw [← hf, tx_size, frame_len, sl_len]
  obtain ⟨c, hc⟩ : ∃ c, secK s.size = c := ⟨_, rfl⟩
  have hc2 : ((f.size : Int) + 31) / 32 = (c : Int) := by rw [← hc, hfz]; unfold secK; omega
  have hc33 : c ≤ 33 := by rw [← hc]; exact sec_le hs
  rw [hc] at hroom
  have HFr := Lib.hid (k_Frame s w hs f hf)
  have HS := Lib.hid (fun w => j_sectorsFor (f.size : Int) (by omega) (by omega) c hc2 w)
  have HJ := Lib.hid hJ
  have g1 : (te : Int) < (nx : Int) + (c : Int) := by omega
  have g2 : (nx : Int) ≤ 4096 := by omega
  have g3 : (c : Int) ≤ 33 := by omega
  unfold ptD
  clear hJ hm hs hroom hf hfz hc hc2 hc33
  go_enter Try.func20, Try.ntmps20
  go_wp2_with fail
  (with_reducible refine HFr.out.mono ?_)
  rintro e w1 ⟨rfl, hb1⟩
  have kJ := HJ.out.below hb1 HJ.out.lt
  have c2 := kJ.cell 2
  have c3 := kJ.cell 3
  unfold juV at c2 c3
  simp only [List.getElem?_cons_zero, List.getElem?_cons_succ] at c2 c3
  have HB := Lib.hid hb1
  clear hb1 kJ HFr
  go_wp2
  go_quiet ((go_at_call 40; exact Calls.quiet_of_same (HS.out _)))
  go_wp2
  go_ret
  exact ⟨rfl, below_drewN HB.out _⟩
set_option maxRecDepth 100000 in
set_option maxHeartbeats 1000000 in
theorem j_Append_ok {w : World} {base D S M k J : Nat} {E : DataW Unit} {V : Nat → Value} {q : Option (Nat × Int)} {d : DiskM} {m : JurM} {K : Nat} (h : DkW w base D S M k E V q d) (hJ : Blk w J 95 (juV D m)) (hd : DkN d K) (hK : K ≤ 50000) (hcut : d.cut = false) (hm : m.nx ≤ m.to ∧ m.to ≤ d.sec.length) (s : ByteArray) (hs : s.size ≤ 1024) (hroom : secK s.size ≤ m.to - m.nx) (d' : DiskM) (hd' : apD d m (sl s) = d') :
    Calls Try.prog 20 #[ptD J, .string s] w fun x w' => x = .returned (.int .i64 0) ∧ ∃ w3, DkA base w w3 D S M (foot D S M V q) d' ∧ Blk w3 J 95 (juV D m) ∧ w' = w3.setCell ⟨J, 3, none⟩ (.int .i64 ((m.nx + secK s.size : Nat) : Int)) := by
  have hsec := hd.sec
  have hda := dkn_apD1 hd m s.size hm.2
  have hput := apD_put d m s hroom
  rw [hd'] at hput
  have hlen1 := apD1_len d m s.size
  have hap : (if m.nx + secK s.size < m.to then syncD (writeD d (m.nx + secK s.size) (zerN 32)) else d) = apD1 d m s.size := rfl
  have hja : ∀ wx, Blk wx J 95 (juV D m) → ∀ j v, (arV D m.fr m.to)[j]? = some v → wx.cell? ((⟨J, 0, none⟩ : Addr).add j) = some v := fun wx hx => ju_area hx
  obtain ⟨f, hf⟩ : ∃ f, tx (frameK (sl s)) = f := ⟨_, rfl⟩
  have hfz : f.size = 6 + s.size := by rw [← hf, tx_size, frame_len, sl_len]
  rw [hf] at hput
  obtain ⟨c, hc⟩ : ∃ c, secK s.size = c := ⟨_, rfl⟩
  have hc2 : ((f.size : Int) + 31) / 32 = (c : Int) := by rw [← hc, hfz]; unfold secK; omega
  have hc4 : (f.size + 31) / 32 = c := by omega
  have hc33 : c ≤ 33 := by rw [← hc]; exact sec_le hs
  rw [hc] at hroom hput hap ⊢
  obtain ⟨d1, hd1⟩ : ∃ d1, apD1 d m s.size = d1 := ⟨_, rfl⟩
  rw [hd1] at hda hput hap hlen1
  obtain ⟨fr, te, nx⟩ := m
  dsimp only at *
  have hval : ((nx + c : Nat) : Int) = (nx : Int) + (c : Int) := by omega
  have HFr := Lib.hid (k_Frame s w hs f hf)
  have HS := Lib.hid (fun w => j_sectorsFor (f.size : Int) (by omega) (by omega) c hc2 w)
  have HBL := Lib.hid (fun (wx : World) (hx : DkW wx base D S M k E V q d) => j_blank hx hd (by omega) hcut fr te (nx + c) (by omega) hm.2 d1 hap)
  have HPU := Lib.hid (fun (wx : World) (k' : Nat) (E' : DataW Unit) (V' : Nat → Value) (q' : Option (Nat × Int)) (hx : DkW wx base D S M k' E' V' q' d1) => j_putA hx hda.1 (by omega) (hda.2.trans hcut) fr te nx c f (by omega) hc4 (by rw [hlen1]; omega) d' hput)
  rw [hval] at HBL
  rw [hval]
  have HJ := Lib.hid hJ
  have H0 := Lib.hid h
  have HC := Lib.hid hcut
  have HC1 := Lib.hid (hda.2.trans hcut)
  have HJA := Lib.hid hja
  have HW : Hid (base ≤ w.heap.size) := Lib.hid (by have := h.blk.lt; have := h.hD; omega)
  have HCD : Hid (d'.cut = false) := Lib.hid (by
    rw [← hput]
    unfold putD
    show (writesD _ _ _).cut = false
    rw [writes_cut]
    exact hda.2.trans hcut)
  have g1 : ¬ (te : Int) < (nx : Int) + (c : Int) := by omega
  have g2 : (nx : Int) ≤ 4096 := by omega
  have g3 : (c : Int) ≤ 33 := by omega
  unfold ptD
  clear h hJ hd hK hcut hm hs hroom hf hfz hc hc2 hc33 hc4 hd' hda hput hap hlen1 hd1 hval hja hsec
  go_enter Try.func20, Try.ntmps20
  go_wp2_with fail
  (with_reducible refine HFr.out.mono ?_)
  rintro e w1 ⟨rfl, hb1⟩
  have kJ := HJ.out.below hb1 HJ.out.lt
  have c2 := kJ.cell 2
  have c3 := kJ.cell 3
  unfold juV at c2 c3
  simp only [List.getElem?_cons_zero, List.getElem?_cons_succ] at c2 c3
  have HB := Lib.hid hb1
  have KJ := Lib.hid kJ
  clear hb1 kJ HFr
  go_wp2
  go_quiet ((go_at_call 40; exact Calls.quiet_of_same (HS.out _)))
  have LJ := Lib.hid (HJA.out _ (KJ.out.drewN nq))
  go_wp2_with (refine wpList_load_addr rfl 93 _ rfl ⟨J, 0, none⟩ rfl (arV D fr te) LJ.out Try.underlying93 rfl (by rw [size_ar]; rfl) ?_)
  obtain ⟨h2, t2⟩ := H0.out.turn (below_drewN HB.out nq)
  have kJ2 := KJ.out.drewN nq
  have H2 := Lib.hid h2
  have T2 := Lib.hid t2
  have KJ2 := Lib.hid kJ2
  clear h2 t2 kJ2 c2 c3 LJ KJ HB H0
  generalize w1.drewN nq = w2 at *
  (with_reducible refine (HBL.out w2 H2.out).mono ?_)
  rintro e w3 ⟨rfl, k3, E3, V3, q3, h3, t3⟩
  have kJ3 := t3.blk KJ2.out (H2.out.notTy HC.out KJ2.out (by decide) (by decide))
  have H3 := Lib.hid h3
  have T3 := Lib.hid (T2.out.trans t3)
  have KJ3 := Lib.hid kJ3
  have hcn : ∀ wx, NewBut w3 wx → wx.cell? ⟨J, 3, none⟩ = some (.int .i64 (nx : Int)) := fun wx hx => (kJ3.below hx kJ3.lt).cell 3
  have hja : ∀ wx, NewBut w3 wx → ∀ j v, (arV D fr te)[j]? = some v → wx.cell? ((⟨J, 0, none⟩ : Addr).add j) = some v := fun wx hx => HJA.out wx (kJ3.below hx kJ3.lt)
  have HCN := Lib.hid hcn
  have HLA := Lib.hid hja
  clear h3 t3 kJ3 hcn hja HBL H2 T2 KJ2
  go_wp2_with fail
  refine region_quiet_tail (C := NewBut w3) 9 mixed (by kernel_rfl) (show Below _ _ _ from (Below.refl _ _).drew) ?_
  simp only [List.take_succ_cons, List.take_zero, List.drop_succ_cons, List.drop_zero]
  repeat (first | (refine wpQuiet_load_one rfl 3 _ rfl ⟨J, 3, none⟩ rfl (.int .i64 (nx : Int)) HCN.out Try.underlying3 rfl ?_) | (refine wpQuiet_load_addr rfl 93 _ rfl ⟨J, 0, none⟩ rfl (arV D fr te) HLA.out Try.underlying93 rfl (by rw [size_ar]; rfl) ?_) | go_big_quiet_step (fail) | (refine wpQuiet_step (fun K' hK' => ?_); go_simp; first | (refine hK' _ ?_; clear hK' K') | (refine ⟨_, fun _ _ => rfl, hK' _ ?_⟩; clear hK' K')))
  refine wpQuiet_nil ?_
  intro w4 hb4
  obtain ⟨h4, t4⟩ := H3.out.turn hb4
  have kJ4 := KJ3.out.below hb4 KJ3.out.lt
  have H4 := Lib.hid h4
  have T4 := Lib.hid (T3.out.trans t4)
  have KJ4 := Lib.hid kJ4
  clear h4 t4 kJ4 hb4 HCN HLA
  go_wp2_with fail
  (with_reducible refine (HPU.out w4 k3 E3 V3 q3 H4.out).mono ?_)
  rintro e w5 ⟨rfl, k5, E5, V5, q5, h5, t5⟩
  have kJ5 := t5.blk KJ4.out (H4.out.notTy HC1.out KJ4.out (by decide) (by decide))
  have c3 := kJ5.cell 3
  have f3 := kJ5.free 3
  unfold juV at c3
  simp only [List.getElem?_cons_zero, List.getElem?_cons_succ] at c3
  have A5 : DkA base w w5 D S M (foot D S M V q) d' := ⟨k5, E5, V5, q5, h5, T4.out.trans t5⟩
  have HA5 := Lib.hid A5
  have KJ5 := Lib.hid kJ5
  clear h5 t5 kJ5 A5
  go_wp2
  go_ret
  exact ⟨rfl, _, HA5.out, KJ5.out, rfl⟩
end Go.Proofs.Ytbobdbdknapdcaa
