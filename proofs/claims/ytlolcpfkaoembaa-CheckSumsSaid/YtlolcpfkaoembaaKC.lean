/- Walk of check's All. -/
import Derived.Test.YtlolcpfkaoembaaKB
import Derived.Test.YtlolcpfkaoembaaJ1
import Derived.Test.YtlolcpfkaoembaaG1
import Derived.Maps.OwnIn
import Derived.Test.YtlolcpfkaoembaaV2
namespace Go.Proofs.Ytlolcpfkaoembaa
open Go.RowKit Go.Shelf
set_option linter.unusedVariables false

attribute [local go_sem] Oper.semAt_some

/-- texts as rows -/
def rowsS (l : List (List Nat)) : List (List Value) := l.map fun x => [.string (tx x)]
theorem rowsS_len (l : List (List Nat)) : (rowsS l).length = l.length := by simp [rowsS]
theorem rowsS_at {l : List (List Nat)} {j : Nat} (h : j < l.length) : (rowsS l)[j]? = some [.string (tx (l.getD j []))] := by simp [rowsS, h]
theorem rowsS_app (a b : List (List Nat)) : rowsS (a ++ b) = rowsS a ++ rowsS b := by simp [rowsS]
theorem OwnR.kept {W W' : World} {base : Nat} {e : TypeId} {k : Nat} {v : Value} {rows : List (List Value)} {row : Option Nat} (h : OwnR W base e k v rows) (hg : W.grownBy W' row) (hrow : ∀ r, row = some r → ∃ o : Obj, W.heap[r]? = some o ∧ o.isCells = false) : OwnR W' base e k v rows := by
  obtain ⟨h0, h1, h2⟩ := h
  refine ⟨h0, h1, ?_⟩
  rcases h2 with h2 | ⟨g, cap, cur, hv, hg', hh, r⟩
  · exact .inl h2
  · exact .inr ⟨g, cap, cur, hv, hg', (grownBy_keeps_cells hg hrow hh rfl).trans hh, r⟩
theorem OwnR.isCells {W : World} {base : Nat} {e : TypeId} {k : Nat} {v : Value} {rows : List (List Value)} (h : OwnR W base e k v rows) : ∀ (j : Nat) (o : Obj), v.ownBlock = some j → W.heap[j]? = some o → o.isCells = true := by
  intro j o hj ho
  rcases h.2.2 with ⟨hv, _⟩ | ⟨g, cap, cur, hv, hg, hh, r⟩
  · rw [hv] at hj; cases hj
  · rw [hv] at hj
    cases hj
    rw [hh] at ho
    cases ho
    rfl
theorem OwnR.lower {W : World} {base base' : Nat} {e : TypeId} {k : Nat} {v : Value} {rows : List (List Value)} (h : OwnR W base e k v rows) (hle : base' ≤ base) : OwnR W base' e k v rows := by
  obtain ⟨h0, h1, h2⟩ := h
  refine ⟨h0, h1, ?_⟩
  rcases h2 with h2 | ⟨g, cap, cur, hv, hg, r⟩
  · exact .inl h2
  · exact .inr ⟨g, cap, cur, hv, Nat.le_trans hle hg, r⟩
theorem info_str : (Try.prog.info? 9).map (fun i => (i.zero, i.size, i.bytes)) = some (some (.string ⟨#[]⟩), 1, 16) := by kernel_rfl
theorem k_frames (s : ByteArray) (w : World) :
    Calls Try.prog 23 #[.string s] w fun e w' => e = .returned (.func (.func 27) #[] #[.pointer (some ⟨w.heap.size, 0, none⟩)]) ∧ w' = w.alloc (.cells #[.string s] 9) := by
  go_enter Try.func23, Try.ntmps23
  go_wp2
  go_ret
  exact ⟨rfl, rfl⟩
theorem k_stops (n G : Nat) (s : ByteArray) (hs : s.size ≤ 60000) (hn : 2 ≤ n) (w : World) (hG : Blk w G 9 [.string s]) :
    SeqStopsK Fence.wide n Try.prog 27 #[.pointer (some ⟨G, 0, none⟩)] (fun x : {x : List Nat × List Nat // x.2.length ≤ s.size} => #[Value.string (tx x.val.1), Value.string (tx x.val.2)]) (fun _ _ => True) (fun ys => ys.map (·.val) = frL (sl s)) (fun _ => True) s.size w := fun l J Jx W hW hJ _ hY h0 => by
  refine (k_fr_in n l G s hs (fun pre W => ∃ ys : List ({x : List Nat × List Nat // x.2.length ≤ s.size}), ys.map (·.val) = pre ∧ J ys W) (fun pre W => ∃ ys : List ({x : List Nat × List Nat // x.2.length ≤ s.size}), ys.map (·.val) = pre ∧ Jx ys W) hn W ?_ ?_ (hG.below hW hG.lt) ⟨[], rfl, h0⟩).mono ?_
  · rintro pre X Y row ⟨ys, e, h⟩ hg hr
    exact ⟨ys, e, hJ ys X Y row h hg hr⟩
  · rintro pre x W1 hx ⟨ys, rfl, h⟩ hlt
    refine (hY ys ⟨x, hx⟩ W1 h (by simpa using hlt)).mono ?_
    rintro e W' (⟨h1, h2, h3⟩ | ⟨h1, h2⟩)
    · exact .inl ⟨h1, ⟨_, by simp, h2⟩, h3⟩
    · exact .inr ⟨h1, ⟨_, by simp, h2⟩⟩
  · rintro e W' ⟨h1, (⟨_, h2, ys, h3, h4⟩ | ⟨_, h2, ys, h3, h4⟩)⟩
    · exact ⟨h1, .inl ⟨ys, h3.trans h2, h4⟩⟩
    · exact ⟨h1, .inr ⟨ys, trivial, h4⟩⟩
/-- what All tells -/
def AllRet (t : List Nat) (w : World) (e : Ending) (w' : World) : Prop :=
  ∃ v, e = .returned (.tuple #[v, .int .i64 (((allK t).2 : Nat) : Int)]) ∧ OwnR w' w.heap.size 9 1 v (rowsS (allK t).1) ∧ Below w.heap.size w w'
set_option maxRecDepth 100000 in
set_option maxHeartbeats 2000000 in
theorem k_All (s : ByteArray) (w : World) (hs : s.size ≤ 60000) :
    Calls Try.prog 14 #[.string s] w (AllRet (sl s) w) := by
  refine (callsIn_wide (n := 9)).1 (callsIn_of_wp_marks Try.func14 rfl trivial ?_ rfl)
  simp only [Try.ntmps14, List.size_toArray, List.length_cons, List.length_nil, Nat.reduceAdd, Nat.reduceSub, Array.replicate_succ, Array.replicate_zero, List.push_toArray, List.append_toArray, List.nil_append, List.cons_append]
  refine wpIn_wide.2 ?_
  go_wp2_with (go_at_call 23; (with_reducible refine (k_frames _ _).mono ?_); rintro e w9 ⟨rfl, rfl⟩)
  obtain ⟨Z, hZ⟩ : ∃ Z, w.heap.size = Z := ⟨_, rfl⟩
  have K0 := (((Blk.new' w 9 (c := #[.string s]) [.string s] rfl).alloc (.cells #[.slice none 0 0] 28)).alloc (.cells #[.int .i64 0] 3)).alloc (.cells #[.string s] 9)
  have K1 := ((Blk.newAt (w.alloc (.cells #[.string s] 9)) (w.heap.size + 1) (by simp) 28 (c := #[.slice none 0 0]) [.slice none 0 0] rfl).alloc (.cells #[.int .i64 0] 3)).alloc (.cells #[.string s] 9)
  have K2 := (Blk.newAt ((w.alloc (.cells #[.string s] 9)).alloc (.cells #[.slice none 0 0] 28)) (w.heap.size + 1 + 1) (by simp) 3 (c := #[.int .i64 0]) [.int .i64 0] rfl).alloc (.cells #[.string s] 9)
  have K3 := Blk.newAt (((w.alloc (.cells #[.string s] 9)).alloc (.cells #[.slice none 0 0] 28)).alloc (.cells #[.int .i64 0] 3)) (w.heap.size + 1 + 1 + 1) (by simp) 9 (c := #[.string s]) [.string s] rfl
  have Kb := ((((Below.refl w.heap.size w).alloc (Nat.le_refl _) (.cells #[.string s] 9)).alloc (by simp) (.cells #[.slice none 0 0] 28)).alloc (by simp; omega) (.cells #[.int .i64 0] 3)).alloc (by simp; omega) (.cells #[.string s] 9)
  have Kn : ((((w.alloc (.cells #[.string s] 9)).alloc (.cells #[.slice none 0 0] 28)).alloc (.cells #[.int .i64 0] 3)).alloc (.cells #[.string s] 9)).heap.size = w.heap.size + 4 := by simp
  generalize World.alloc (World.alloc (World.alloc (World.alloc w _) _) _) _ = w4 at *
  rw [hZ] at K0 K1 K2 K3 Kb Kn
  rw [hZ]
  refine (wpIn_wide (n := 9)).1 ?_
  refine wpIn_rangeFunc_ownF (F := Fence.wide) (n := 9) rfl (by omega) (gf := 27) (lb := #[.pointer (some ⟨Z + 1 + 1 + 1, 0, none⟩)]) rfl trivial (enters_of Try.func27 (by kernel_rfl) rfl)
    (k_stops 8 (Z + 1 + 1 + 1) s hs (by omega) w4 K3) (fun _ _ => trivial) (fun W l o o' _ h hc _ => trivial) (Below.refl _ _) (fun _ => rfl)
    (fun pre W => (Blk W Z 9 [.string s] ∧ Blk W (Z + 1 + 1) 3 [.int .i64 ((takenK s.size (pre.map (·.val)) : Nat) : Int)] ∧ Blk W (Z + 1 + 1 + 1) 9 [.string s] ∧ ∃ v, Blk W (Z + 1) 28 [v] ∧ OwnR W (Z + 4) 9 1 v (rowsS (pre.map (·.val.1)))) ∧ Below Z w W)
    (fun _ _ _ => False)
    (OwnFrom.and (Own.from (fun s A B row hs hg hr => ⟨hs.1.kept hg hr, hs.2.1.kept hg hr, hs.2.2.1.kept hg hr, hs.2.2.2.elim fun v h => ⟨v, h.1.kept hg hr, h.2.kept hg hr⟩⟩) _) (ownFrom_below (by omega) (by omega)))
    (fun _ _ _ _ _ hs _ _ => hs)
    ⟨⟨K0, K2, K3, _, K1, OwnR.nil _ _ _ _⟩, Kb⟩
    (fun x => { tmps := #[.string s, .pointer (some ⟨Z, 0, none⟩), .slice none 0 0, .int .i64 0, .pointer (some ⟨Z + 1, 0, none⟩), .pointer (some ⟨Z + 1 + 1, 0, none⟩), .string (tx x.val.1), .string (tx x.val.2), .string s, .func (.func 27) #[] #[.pointer (some ⟨Z + 1 + 1 + 1, 0, none⟩)], .string (tx x.val.1), .string (tx x.val.2), undef, undef, undef, undef, undef, undef, undef, undef, undef, undef, undef], defers := [] }) ?assign ?body ?done ?stop
  case assign =>
    intro lp x W K hK
    gi_wp2
    exact hK
  case body =>
    rintro lp pre ⟨⟨x, y⟩, hxy⟩ W ⟨⟨h1, h2, h5, v, h3, h4⟩, hb⟩ hlt
    obtain ⟨i0, hi0, hz0, hz1, hz2⟩ := info_parts2 info_str
    obtain ⟨X, hX⟩ : ∃ X, tx x = X := ⟨_, rfl⟩
    obtain ⟨Y, hY⟩ : ∃ Y, tx y = Y := ⟨_, rfl⟩
    have hYz : Y.size = y.length := by rw [← hY, tx_size]
    have hys : y.length ≤ s.size := hxy
    have hll : (rowsS (pre.map (·.val.1))).length = pre.length := by rw [rowsS_len, List.length_map]
    have htk : takenK s.size ((pre ++ [(⟨(x, y), hxy⟩ : {x : List Nat × List Nat // x.2.length ≤ s.size})]).map (·.val)) = s.size - y.length := by
      unfold takenK
      rw [List.map_append, List.map_singleton, List.getLast?_concat]
    have hrs : rowsS ((pre ++ [(⟨(x, y), hxy⟩ : {x : List Nat × List Nat // x.2.length ≤ s.size})]).map (·.val.1)) = rowsS (pre.map (·.val.1)) ++ [[.string X]] := by
      rw [List.map_append, rowsS_app, ← hX]
      rfl
    have hval : (s.size : Int) - (y.length : Int) = ((s.size - y.length : Nat) : Int) := by omega
    obtain ⟨R, hR⟩ : ∃ R, rowsS (pre.map (·.val.1)) = R := ⟨_, rfl⟩
    rw [hR] at h4 hll hrs
    have hown : (W.alloc (.cells #[.string X] 9)).ownsRow (Z + 4) 9 1 v pre.length R.flatten := by
      have := (h4.alloc (.cells #[.string X] 9)).2
      rw [hll] at this
      exact this
    have hnew : ∀ jj u, [Value.string X][jj]? = some u → (W.alloc (.cells #[.string X] 9)).cell? ((⟨W.heap.size, 0, none⟩ : Addr).add jj) = some u := fun jj u h => by
      rw [Addr.add_mid]
      exact (Blk.new' W 9 [Value.string X] rfl).whole jj u h
    have hone : ∀ u ∈ [Value.string X], u.oneCell' = true := by simp [Value.oneCell']
    have h63 : pre.length + 1 ≤ maxLen := by simp [maxLen]; omega
    have hbyy : (pre.length + 1) * 16 ≤ 140737488355328 := by omega
    have hWz : Z + 4 ≤ W.heap.size := by
      have := h5.lt
      omega
    have hbase : Z + 4 ≤ (W.alloc (.cells #[.string X] 9)).heap.size := by simp; omega
    have hge : ∀ b, v.ownBlock = some b → Z + 4 ≤ b := fun b hb => (h4.lt b hb).1
    have a0 := h1.alloc (.cells #[.string X] 9)
    have a1 := h3.alloc (.cells #[.string X] 9)
    have a3 := h5.alloc (.cells #[.string X] 9)
    have a2 := h2.alloc (.cells #[.string X] 9)
    have ab := hb.alloc (show Z ≤ W.heap.size by omega) (.cells #[.string X] 9)
    have hcells : ∀ (j : Nat) (o : Obj), v.ownBlock = some j → (W.alloc (.cells #[.string X] 9)).heap[j]? = some o → o.isCells = true := (h4.alloc _).isCells
    have h4k := h4.1
    obtain ⟨p, cap, rfl⟩ := h4.isSlice
    have key : ∀ v5 w5, w5.ownsRow (Z + 4) 9 1 v5 (pre.length + 1) (R.flatten ++ [.string X]) → (W.alloc (.cells #[.string X] 9)).grownBy w5 (Value.slice p R.length cap).ownBlock →
        (w5.cell? ⟨Z + 1, 0, none⟩ = some (.slice p R.length cap) ∧ w5.frozen? ⟨Z + 1, 0, none⟩ = false ∧ (w5.setCell ⟨Z + 1, 0, none⟩ v5).cell? ⟨Z, 0, none⟩ = some (.string s) ∧ (w5.setCell ⟨Z + 1, 0, none⟩ v5).cell? ⟨Z + 1 + 1, 0, none⟩ = some (.int .i64 ((takenK s.size (pre.map (·.val)) : Nat) : Int)) ∧ (w5.setCell ⟨Z + 1, 0, none⟩ v5).frozen? ⟨Z + 1 + 1, 0, none⟩ = false) ∧
        KeepsOthers W ((w5.setCell ⟨Z + 1, 0, none⟩ v5).setCell ⟨Z + 1 + 1, 0, none⟩ (.int .i64 ((s.size : Int) - (y.length : Int)))) ∧ True ∧
        ((Blk ((w5.setCell ⟨Z + 1, 0, none⟩ v5).setCell ⟨Z + 1 + 1, 0, none⟩ (.int .i64 ((s.size : Int) - (y.length : Int)))) Z 9 [.string s] ∧ Blk ((w5.setCell ⟨Z + 1, 0, none⟩ v5).setCell ⟨Z + 1 + 1, 0, none⟩ (.int .i64 ((s.size : Int) - (y.length : Int)))) (Z + 1 + 1) 3 [.int .i64 ((takenK s.size ((pre ++ [(⟨(x, y), hxy⟩ : {x : List Nat × List Nat // x.2.length ≤ s.size})]).map (·.val)) : Nat) : Int)] ∧ Blk ((w5.setCell ⟨Z + 1, 0, none⟩ v5).setCell ⟨Z + 1 + 1, 0, none⟩ (.int .i64 ((s.size : Int) - (y.length : Int)))) (Z + 1 + 1 + 1) 9 [.string s] ∧ ∃ v, Blk ((w5.setCell ⟨Z + 1, 0, none⟩ v5).setCell ⟨Z + 1 + 1, 0, none⟩ (.int .i64 ((s.size : Int) - (y.length : Int)))) (Z + 1) 28 [v] ∧ OwnR ((w5.setCell ⟨Z + 1, 0, none⟩ v5).setCell ⟨Z + 1 + 1, 0, none⟩ (.int .i64 ((s.size : Int) - (y.length : Int)))) (Z + 4) 9 1 v (rowsS ((pre ++ [(⟨(x, y), hxy⟩ : {x : List Nat × List Nat // x.2.length ≤ s.size})]).map (·.val.1)))) ∧ Below Z w ((w5.setCell ⟨Z + 1, 0, none⟩ v5).setCell ⟨Z + 1 + 1, 0, none⟩ (.int .i64 ((s.size : Int) - (y.length : Int))))) := by
      intro v5 w5 hown5 hg5
      have b0 := a0.grownO hg5 (fun i hi => by have := hge i hi; omega)
      have b1 := a1.grownO hg5 (fun i hi => by have := hge i hi; omega)
      have b2 := a2.grownO hg5 (fun i hi => by have := hge i hi; omega)
      have b3 := a3.grownO hg5 (fun i hi => by have := hge i hi; omega)
      have bb := ab.grown hg5 (by simp; omega) (fun i hi => by have := hge i hi; omega)
      have o5 : OwnR w5 (Z + 4) 9 1 v5 (rowsS ((pre ++ [(⟨(x, y), hxy⟩ : {x : List Nat × List Nat // x.2.length ≤ s.size})]).map (·.val.1))) := by
        rw [hrs]
        refine ⟨fun r hr => ?_, ?_⟩
        · rcases List.mem_append.1 hr with hr | hr
          · exact h4k r hr
          · rw [List.mem_singleton.1 hr]; rfl
        · rw [List.length_append, hll, List.flatten_append]
          exact hown5
      have c0 := b0.other (a := ⟨Z + 1, 0, none⟩) (show Z + 1 ≠ Z by omega) v5
      have c1 := b1.set 0 v5
      have c2 := b2.other (a := ⟨Z + 1, 0, none⟩) (show Z + 1 ≠ Z + 1 + 1 by omega) v5
      have c3 := b3.other (a := ⟨Z + 1, 0, none⟩) (show Z + 1 ≠ Z + 1 + 1 + 1 by omega) v5
      have co := o5.cellOther b1 (by decide) 0 v5
      have cb := bb.setCell (p := ⟨Z + 1, 0, none⟩) (show Z ≤ Z + 1 by omega) v5
      refine ⟨⟨b1.cell 0, b1.free 0, c0.cell 0, c2.cell 0, c2.free 0⟩, (KeepsOthers.alloc W _).trans ((KeepsOthers.of_grownBy hg5 hcells).trans ((KeepsOthers.setCell w5 _ _).trans (KeepsOthers.setCell _ _ _))), trivial, ⟨c0.other (a := ⟨Z + 1 + 1, 0, none⟩) (show Z + 1 + 1 ≠ Z by omega) _, ?_, c3.other (a := ⟨Z + 1 + 1, 0, none⟩) (show Z + 1 + 1 ≠ Z + 1 + 1 + 1 by omega) _, v5, c1.other (a := ⟨Z + 1 + 1, 0, none⟩) (show Z + 1 + 1 ≠ Z + 1 by omega) _, co.cellOther c2 (by decide) 0 _⟩, cb.setCell (p := ⟨Z + 1 + 1, 0, none⟩) (show Z ≤ Z + 1 + 1 by omega) _⟩
      rw [htk, ← hval]
      exact c2.set 0 _
    have c1 := h3.cell 0
    simp only [List.getElem?_cons_zero] at c1
    have HKey := Lib.hid key
    have HRow := Lib.hid hown
    have HNew := Lib.hid hnew
    have HOne := Lib.hid hone
    have H63 := Lib.hid h63
    have HBY := Lib.hid hbyy
    have HBS := Lib.hid hbase
    clear key hown hnew hone h63 hbyy hbase a0 a1 a2 a3 ab hcells h4k h1 h2 h3 h4 h5 hb hge hWz hrs htk hval hll K0 K1 K2 K3 Kb
    dsimp only
    rw [hX, hY]
    clear hX hY
    gi_wp2_with (gi_at_builtin; go_loud (refine wpListIn_append_own_at _ rfl _ _ 28 rfl (Z + 4) 9 i0 (.string ⟨#[]⟩) 1 16 Try.underlying28 hi0 hz0 hz1 hz2 rfl (by decide) _ pre.length _ rfl HRow.out ⟨W.heap.size, 0, none⟩ 1 1 [.string X] rfl rfl HNew.out HOne.out H63.out HBY.out HBS.out ?_; intro v5 w5 hown5 hg5 hnil5 hat5; obtain ⟨p5, cap5, rfl⟩ := own_slice hown5; obtain ⟨⟨q1, q2, q3, q4, q5⟩, hfin⟩ := HKey.out _ w5 hown5 hg5; have HFin := Lib.hid hfin; clear hown5 hg5 hnil5 hat5 hfin))
    exact HFin.out
  case done =>
    rintro D ys W hD hys ⟨⟨h1, h2, _, v, h3, h4⟩, hb⟩ hK
    obtain ⟨e1, e2⟩ := taken_all (sl s)
    rw [sl_len, ← hys] at e1
    rw [← hys, List.map_map] at e2
    obtain ⟨p, cap, rfl⟩ := h4.isSlice
    rw [e1] at h2
    have c1 := h3.cell 0
    have c2 := h2.cell 0
    simp only [List.getElem?_cons_zero] at c1 c2
    have HE := Lib.hid e2
    clear hys e1 e2 K0 K1 K2 K3 Kb h1 h2 h3
    go_wp2
    go_quiet (fail)
    go_wp2
    refine ⟨by simp, .inl ⟨_, _, rfl, run_takeDeferred hK, ?_⟩⟩
    have hE2 : ys.map (fun x => x.val.1) = (allK (sl s)).1 := HE.out
    rw [hE2] at h4
    rw [hE2]
    have o1 : OwnR (W.drewN nq) (Z + 4) 9 1 (.slice p (rowsS (allK (sl s)).1).length cap) (rowsS (allK (sl s)).1) := h4
    have o2 := o1.kept (grownBy_putObj' (W.drewN nq) D (.deferred none)) (fun r e => by cases e; exact ⟨_, hK, rfl⟩)
    have b1 : Below Z w (W.drewN nq) := below_drewN hb nq
    rw [← hZ] at b1 o2
    exact ⟨_, results_tmp2 rfl _ _ _, _, rfl, o2.lower (by omega), b1.trans (belowK_b (w := w) (Nat.le_refl _) _ D _ _ (by omega) hK rfl rfl)⟩
  case stop =>
    rintro D c pre W _ _ h _
    exact h.elim
end Go.Proofs.Ytlolcpfkaoembaa
namespace Go.Proofs.Ytlolcpfkaoembaa
open Go.RowKit
set_option linter.unusedVariables false

set_option maxHeartbeats 1000000 in
set_option maxRecDepth 100000 in
theorem kr_Sum (s : ByteArray) (w : World) (hs : s.size ≤ 1000000) :
    Calls Try.prog 17 #[.string s] w fun e w' => e = .returned (.int .u32 ((sumK (sl s) : Nat) : Int)) ∧ w = w' := by
  have HSB := Lib.hid (sl_bys s)
  have HLen := Lib.hid (sl_len s)
  go_enter Try.func17, Try.ntmps17
  go_wp2
  go_loop [3, 4, 5] (fun n i _ => ∃ j : Nat, j ≤ s.size ∧ n = .int .u32 ((foldK 4294967295 ((sl s).take j) : Nat) : Int) ∧ i = .int .i64 (j : Int)) (fun _ i _ => s.size - (intOf i).toNat)
  case atStart => exact ⟨0, by omega, rfl, rfl⟩
  case round =>
    obtain ⟨j, hj, rfl, rfl⟩ := hrel
    by_cases hlt : j < s.size
    · have d1 : (j : Int) < (s.size : Int) := by omega
      have hix := fun w => index_sl s .i64 j hlt w
      have hc := HSB.out j
      have hf := foldK_lt (HSB.out.take j) (n := 4294967295) (by omega)
      have hst : foldK 4294967295 ((sl s).take (j + 1)) = iterK 8 (foldK 4294967295 ((sl s).take j) ^^^ (sl s).getD j 0) := foldK_take 4294967295 (sl s) (j := j) (by rw [HLen.out]; exact hlt)
      have HST := Lib.hid hst
      clear hst
      generalize foldK 4294967295 ((sl s).take j) = n at *
      generalize (sl s).getD j 0 = c at *
      have hx1 := xorK n c hf (by omega)
      have hx : n ^^^ c < 4294967296 := Nat.xor_lt_two_pow (n := 32) hf (by omega)
      generalize n ^^^ c = x at *
      have HXL := Lib.hid hx
      clear hx
      go_wp2
      go_loop [3, 5] (fun n i => ∃ k : Nat, k ≤ 8 ∧ n = .int .u32 ((iterK k x : Nat) : Int) ∧ i = .int .i64 (k : Int)) (fun _ i => 8 - (intOf i).toNat)
      case atStart => exact ⟨0, by omega, rfl, rfl⟩
      case round =>
        obtain ⟨k, hk, rfl, rfl⟩ := hrel
        by_cases hk8 : k < 8
        · have d2 : (k : Int) < 8 := by omega
          have hi := iterK_lt (k := k) HXL.out
          have hs1 : iterK (k + 1) x = tK (iterK k x) := by rw [iterK_add k 1]; rfl
          have HS1 := Lib.hid hs1
          clear hs1
          generalize iterK k x = y at *
          have hl := lowK y hi
          by_cases h : y % 2 = 1
          · have ht : ((tK y : Nat) : Int) = bits .xor .u32 ((y : Int) / 2) 3988292384 := by
              unfold tK; rw [if_pos h, ← xorK _ _ (by omega) (by omega)]; rfl
            have H := Lib.hid ht
            have h1 : ((y % 2 : Nat) : Int) = 1 := by omega
            rw [h1] at hl
            clear ht
            go_wp2
            go_round
            case rel => exact ⟨k + 1, by omega, by rw [HS1.out, H.out], by go_num⟩
            case measure => simp [intOf]; omega
          · have ht : ((tK y : Nat) : Int) = (y : Int) / 2 := by
              unfold tK; rw [if_neg h]; omega
            have H := Lib.hid ht
            have h1 : ((y % 2 : Nat) : Int) = 0 := by omega
            rw [h1] at hl
            clear ht
            go_wp2
            go_round
            case rel => exact ⟨k + 1, by omega, by rw [HS1.out, H.out], by go_num⟩
            case measure => simp [intOf]; omega
        · obtain rfl : k = 8 := by omega
          go_wp2
          go_round
          case rel => exact ⟨j + 1, by omega, by rw [HST.out], by go_num⟩
          case measure => simp [intOf]; omega
    · obtain rfl : j = s.size := by omega
      have hfull : (sl s).take s.size = sl s := List.take_of_length_le (by rw [HLen.out]; exact Nat.le_refl _)
      rw [hfull]
      have hf := foldK_lt HSB.out (n := 4294967295) (by omega)
      have hn := xorK (foldK 4294967295 (sl s)) 4294967295 hf (by omega)
      rw [show foldK 4294967295 (sl s) ^^^ 4294967295 = sumK (sl s) from rfl] at hn
      have HN := Lib.hid hn
      clear hn
      generalize foldK 4294967295 (sl s) = F at *
      go_wp2
      go_ret
      exact ⟨congrArg (fun x => Ending.returned (Value.int .u32 x)) HN.out, rfl⟩
end Go.Proofs.Ytlolcpfkaoembaa
namespace Go.Proofs.Ytlolcpfkaoembaa
open Go.RowKit
set_option linter.unusedVariables false

theorem sl_ext (s : ByteArray) (i j : Nat) : sl (s.extract i j) = ((sl s).drop i).take (j - i) := by
  unfold sl
  rw [← List.map_drop, ← List.map_take]
  congr 1
  rw [ByteArray.data_extract, Array.toList_extract, List.extract_eq_take_drop]
set_option maxHeartbeats 1000000 in
set_option maxRecDepth 100000 in
theorem kr_Frame_no (s : ByteArray) (w : World) (hs : 1024 < s.size) :
    Calls Try.prog 11 #[.string s] w fun e w' => e = .returned (.tuple #[.string ⟨#[]⟩, .int .i64 90]) ∧ w = w' := by
  have d1 : (1024 : Int) < (s.size : Int) := by omega
  go_enter Try.func11, Try.ntmps11
  go_wp2
  go_ret2
  exact ⟨rfl, rfl⟩
set_option maxHeartbeats 1000000 in
set_option maxRecDepth 100000 in
theorem kr_Frame (s : ByteArray) (w : World) (hs : s.size ≤ 1024) (f : ByteArray) (hf : tx (frameK (sl s)) = f) :
    Calls Try.prog 11 #[.string s] w fun e w' => e = .returned (.tuple #[.string f, .int .i64 0]) ∧ Below w.heap.size w w' := by
  have d1 : ¬ (1024 : Int) < (s.size : Int) := by omega
  have d2 : IntKind.u64.wrap (s.size : Int) = (s.size : Int) := wraps_u64 _ (by omega) (by omega)
  obtain ⟨h, hh⟩ : ∃ h, tx (bigL s.size 2) = h := ⟨_, rfl⟩
  have hbig : ∀ w : World, Calls Try.prog 20 #[.int .u64 (s.size : Int), .int .i64 2] w fun e w' => e = .returned (.string h) ∧ Below w.heap.size w w' := fun w => by
    rw [← hh]
    exact r_Big s.size 2 w (by omega) (by omega) (by omega)
  have hhz : h.size = 2 := by rw [← hh, tx_size, big_len]
  have hadd := fun w' => run_string_add_sum (P := Try.prog) w' h s (by omega)
  have hsum := fun w => kr_Sum (h ++ s) w (by rw [ByteArray.size_append]; omega)
  have hlt : sumK (sl (h ++ s)) < 4294967296 := sumK_lt (sl_bys _)
  obtain ⟨v, hv⟩ : ∃ v, sumK (sl (h ++ s)) = v := ⟨_, rfl⟩
  simp only [hv] at hsum hlt
  obtain ⟨g, hg⟩ : ∃ g, tx (bigL v 4) = g := ⟨_, rfl⟩
  have hbig2 : ∀ w : World, Calls Try.prog 20 #[.int .u64 (v : Int), .int .i64 4] w fun e w' => e = .returned (.string g) ∧ Below w.heap.size w w' := fun w => by
    rw [← hg]
    exact r_Big v 4 w (by omega) (by omega) (by omega)
  have hgz : g.size = 4 := by rw [← hg, tx_size, big_len]
  have hadd2 := fun w' => run_string_add_sum (P := Try.prog) w' h g (by omega)
  have hadd3 := fun w' => run_string_add_sum (P := Try.prog) w' (h ++ g) s (by rw [ByteArray.size_append]; omega)
  have d3 : IntKind.u64.wrap (v : Int) = (v : Int) := wraps_u64 _ (by omega) (by omega)
  have hfin : h ++ g ++ s = f := by
    rw [← hf]
    unfold frameK
    rw [sl_len, ← tx_sl s, tx_app, tx_app, ← hh, ← hg, ← hv, ← hh, sl_app, sl_tx (big_bys _ _), sl_tx (sl_bys _), ByteArray.append_assoc, tx_size, sl_len]
  have HF := Lib.hid hfin
  have HB := Lib.hid hbig
  have HS := Lib.hid hsum
  have HB2 := Lib.hid hbig2
  clear hbig hsum hbig2 hfin hh hg hv hf
  go_enter Try.func11, Try.ntmps11
  go_wp2_with (first | (go_at_call 20; first | ((with_reducible refine (HB.out _).mono ?_); rintro e w1 ⟨rfl, hb1⟩) | ((with_reducible refine (HB2.out _).mono ?_); rintro e w3 ⟨rfl, hb3⟩)) | (go_at_call 17; (with_reducible refine (HS.out _).mono ?_); rintro e w2 ⟨rfl, rfl⟩))
  go_ret2
  exact ⟨by rw [← HF.out]; rfl, hb1.trans (hb3.mono hb1.size)⟩

set_option maxHeartbeats 1000000 in
set_option maxRecDepth 100000 in
theorem kr_First (t : ByteArray) (w : World) (ht : t.size ≤ 60000) :
    Calls Try.prog 13 #[.string t] w (FirstRet t w) := by
  have hlen := sl_len t
  have hB2 := fix_lt (sl_bys t) 2
  by_cases h0 : t.size = 0
  · have hf := first_none (t := sl t) (by omega)
    have htx := txt_empty h0
    have HF := Lib.hid hf
    clear hf hlen hB2
    go_enter Try.func13, Try.ntmps13
    go_wp2
    go_ret3
    exact ⟨by rw [HF.out]; rfl, Below.refl _ _⟩
  have htx := txt_full h0
  by_cases h6 : t.size < 6
  · have hf := first_short (t := sl t) (by omega) (by omega)
    have HF := Lib.hid hf
    have d1 : (t.size : Int) < 6 := by omega
    clear hf hlen hB2
    go_enter Try.func13, Try.ntmps13
    go_wp2
    go_ret3
    exact ⟨by rw [HF.out]; rfl, Below.refl _ _⟩
  have d6 : ¬ (t.size : Int) < 6 := by omega
  obtain ⟨n, hn⟩ : ∃ n, fixN (sl t) 2 = n := ⟨_, rfl⟩
  obtain ⟨t2, ht2⟩ : ∃ t2, t.extract 2 t.size = t2 := ⟨_, rfl⟩
  have ht2z : t2.size = t.size - 2 := by rw [← ht2, ByteArray.size_extract]; omega
  have ht2l : sl t2 = (sl t).drop 2 := by rw [← ht2, sl_tail]
  obtain ⟨v, hv⟩ : ∃ v, fixN (sl t2) 4 = v := ⟨_, rfl⟩
  obtain ⟨b, hb⟩ : ∃ b, t2.extract 4 t2.size = b := ⟨_, rfl⟩
  have hbz : b.size = t.size - 6 := by rw [← hb, ByteArray.size_extract]; omega
  have hbl : sl b = (sl t).drop 6 := by rw [← hb, sl_tail, ht2l, List.drop_drop]
  have hx1 : ∀ w : World, Calls Try.prog 22 #[.string t, .int .i64 2] w fun e w' => e = .returned (.tuple #[.int .u64 (n : Int), .string t2, .int .i64 0]) ∧ Below w.heap.size w w' :=
    fun w => r_Fixed t 2 w (by omega) (by omega) (by omega) n 0 t2 (.inl ⟨by omega, hn, ht2, rfl⟩)
  have hx2 : ∀ w : World, Calls Try.prog 22 #[.string t2, .int .i64 4] w fun e w' => e = .returned (.tuple #[.int .u64 (v : Int), .string b, .int .i64 0]) ∧ Below w.heap.size w w' :=
    fun w => r_Fixed t2 4 w (by omega) (by omega) (by omega) v 0 b (.inl ⟨by omega, hv, hb, rfl⟩)
  have HX1 := Lib.hid hx1
  have HX2 := Lib.hid hx2
  clear hx1 hx2
  have hv4 : v < 4294967296 := by rw [← hv]; exact fix_lt (sl_bys t2) 4
  rw [hn] at hB2
  have s2 : (2 : Int) ≤ (t.size : Int) := by omega
  have hwb : IntKind.u64.wrap (b.size : Int) = (b.size : Int) := wraps_u64 _ (by omega) (by omega)
  by_cases hc : 1024 < n
  · have hf := first_cap (t := sl t) (by omega) (by omega)
    have HF := Lib.hid hf
    have d1 : (1024 : Int) < (n : Int) := by omega
    clear hf hlen ht2l hbl hb hv hn ht2z hbz
    go_enter Try.func13, Try.ntmps13
    go_wp2_with (go_at_call 22; first | ((with_reducible refine (HX1.out _).mono ?_); rintro e w1 ⟨rfl, hb1⟩) | ((with_reducible refine (HX2.out _).mono ?_); rintro e w2 ⟨rfl, hb2⟩))
    go_ret3
    exact ⟨by rw [HF.out]; rfl, hb1⟩
  have d3 : ¬ (1024 : Int) < (n : Int) := by omega
  by_cases hl : b.size < n
  · have hf := first_less (t := sl t) (by omega) (by omega) (by omega)
    have HF := Lib.hid hf
    have d1 : (t.size : Int) < 6 + (n : Int) := by omega
    clear hf hlen ht2l hbl hb hv hn ht2z hbz
    go_enter Try.func13, Try.ntmps13
    go_wp2_with (go_at_call 22; first | ((with_reducible refine (HX1.out _).mono ?_); rintro e w1 ⟨rfl, hb1⟩) | ((with_reducible refine (HX2.out _).mono ?_); rintro e w2 ⟨rfl, hb2⟩))
    go_ret3
    exact ⟨by rw [HF.out]; rfl, hb1⟩
  have d4 : ¬ (t.size : Int) < 6 + (n : Int) := by omega
  have s3 : 6 + (n : Int) ≤ (t.size : Int) := by omega
  have s4 : (0 : Int) ≤ 6 + (n : Int) := by omega
  have s5 : (6 : Int) ≤ 6 + (n : Int) := by omega
  have s6 : (6 + (n : Int)).toNat = 6 + n := by omega
  have s7 : IntKind.i64.wrap (n : Int) = (n : Int) := by rw [IntWalk.i64_in _ (by omega)]
  obtain ⟨h2, hh2⟩ : ∃ h2, t.extract 0 2 = h2 := ⟨_, rfl⟩
  have hh2z : h2.size = 2 := by rw [← hh2, ByteArray.size_extract]; omega
  have hh2l : sl h2 = (sl t).take 2 := by rw [← hh2, sl_head]
  obtain ⟨c, hc2⟩ : ∃ c, t.extract 6 (6 + n) = c := ⟨_, rfl⟩
  have hcz : c.size = n := by rw [← hc2, ByteArray.size_extract]; omega
  have hcl : sl c = ((sl t).drop 6).take n := by
    rw [← hc2]
    have h1 := sl_ext t 6 (6 + n)
    rw [h1, Nat.add_sub_cancel_left]
  obtain ⟨r, hr⟩ : ∃ r, t.extract (6 + n) t.size = r := ⟨_, rfl⟩
  have hrl : sl r = (sl t).drop (6 + n) := by rw [← hr, sl_tail]
  have hcat := fun w' => run_string_add_sum (P := Try.prog) w' h2 c (by omega)
  have hsum := fun w => kr_Sum (h2 ++ c) w (by rw [ByteArray.size_append]; omega)
  have hlt : sumK (sl (h2 ++ c)) < 4294967296 := sumK_lt (sl_bys _)
  have hsl : sl (h2 ++ c) = (sl t).take 2 ++ ((sl t).drop 6).take n := by rw [sl_app, hh2l, hcl]
  rw [hsl] at hlt
  simp only [hsl] at hsum
  obtain ⟨S, hS⟩ : ∃ S, sumK ((sl t).take 2 ++ ((sl t).drop 6).take n) = S := ⟨_, rfl⟩
  rw [hS] at hlt
  simp only [hS] at hsum
  have HSum := Lib.hid hsum
  have hwS : IntKind.u64.wrap (S : Int) = (S : Int) := wraps_u64 _ (by omega) (by omega)
  clear hsum hsl
  by_cases hq : S = v
  · have hf := first_ok (t := sl t) (by omega) (by omega) (by omega) (by rw [hn, ← ht2l, hv]; exact hS.trans hq)
    rw [hn, ← hcl, ← hrl] at hf
    have HF := Lib.hid hf
    have hqb : ((S : Int) == (v : Int)) = true := by simp [hq]
    have hqe : (S : Int) = (v : Int) := by rw [hq]
    clear hf hlen ht2l hbl hb hv hn ht2z hbz hS hq hh2l hcl hrl hqe
    go_enter Try.func13, Try.ntmps13
    go_wp2_with (first | (go_at_call 22; first | ((with_reducible refine (HX1.out _).mono ?_); rintro e w1 ⟨rfl, hb1⟩) | ((with_reducible refine (HX2.out _).mono ?_); rintro e w2 ⟨rfl, hb2⟩)) | (go_at_call 17; (with_reducible refine (HSum.out _).mono ?_); rintro e w3 ⟨rfl, rfl⟩))
    have hb0 := hb1.trans (hb2.mono hb1.size)
    refine region_drew_tail 8 mixed (by kernel_rfl) ?_
    simp only [List.take_succ_cons, List.take_zero, List.drop_succ_cons, List.drop_zero]
    repeat (first | go_big_quiet_step (fail) | quiet_step (fail))
    refine wpQuiet_nil ?_
    rintro _ ⟨nq, rfl⟩
    go_wp2
    go_ret3
    exact ⟨by rw [HF.out, tx_sl, tx_sl]; rfl, below_drewN hb0 nq⟩
  · have hf := first_sum (t := sl t) (by omega) (by omega) (by omega) (by rw [hn, ← ht2l, hv]; exact fun h => hq (hS.symm.trans h))
    have HF := Lib.hid hf
    have hqb : ((S : Int) == (v : Int)) = false := by simp; omega
    clear hf hlen ht2l hbl hb hv hn ht2z hbz hS hh2l hcl hrl
    go_enter Try.func13, Try.ntmps13
    go_wp2_with (first | (go_at_call 22; first | ((with_reducible refine (HX1.out _).mono ?_); rintro e w1 ⟨rfl, hb1⟩) | ((with_reducible refine (HX2.out _).mono ?_); rintro e w2 ⟨rfl, hb2⟩)) | (go_at_call 17; (with_reducible refine (HSum.out _).mono ?_); rintro e w3 ⟨rfl, rfl⟩))
    go_ret3
    exact ⟨by rw [HF.out]; rfl, hb1.trans (hb2.mono hb1.size)⟩
end Go.Proofs.Ytlolcpfkaoembaa
namespace Go.Proofs.Ytlolcpfkaoembaa
open Go.RowKit
set_option linter.unusedVariables false

theorem SlS.cell {w : World} {p : Option Addr} {n cap : Nat} {l : List (List Nat)} (h : Sl w 1 (.slice p n cap) (rowsS l)) {j : Nat} (hj : j < l.length) : ∃ a : Addr, p = some a ∧ w.cell? (a.add j) = some (.string (tx (l.getD j []))) := by
  obtain ⟨a, e, hc⟩ := h.row (rowsS_at hj)
  exact ⟨a, e, by have := hc 0 _ rfl; rw [Nat.mul_one] at this; exact this⟩
theorem kr_First_ok (t : ByteArray) (w : World) (ht : t.size ≤ 60000) (x r : List Nat) (h : firstK (sl t) = (x, r, 0)) :
    Calls Try.prog 13 #[.string t] w fun e w' => e = .returned (.tuple #[.string (tx x), .string (tx r), .int .i64 0]) ∧ Below w.heap.size w w' := by
  have := kr_First t w ht
  unfold FirstRet at this
  rw [h] at this
  exact this
theorem kr_First_no (t : ByteArray) (w : World) (ht : t.size ≤ 60000) (h : (firstK (sl t)).2.2 ≠ 0) :
    Calls Try.prog 13 #[.string t] w fun e w' => e = .returned (.tuple #[.string ⟨#[]⟩, .string ⟨#[]⟩, .int .i64 (((firstK (sl t)).2.2 : Nat) : Int)]) ∧ Below w.heap.size w w' := by
  have := kr_First t w ht
  unfold FirstRet at this
  rw [first_not h] at this
  exact this
set_option maxRecDepth 100000 in
set_option maxHeartbeats 1000000 in
theorem kr_All (s : ByteArray) (w : World) (hs : s.size ≤ 60000) :
    Calls Try.prog 15 #[.string s] w (AllRet (sl s) w) := by
  obtain ⟨i0, hi0, hz0, hz1, hz2⟩ := info_parts2 info_str
  have k0 := Lib.hid (OwnR.empty w w.heap.size 9 1 (Nat.le_refl _))
  have kb := Lib.hid ((Below.refl w.heap.size w).alloc (Nat.le_refl _) (.cells #[] 9))
  go_enter Try.func15, Try.ntmps15
  go_wp2
  go_loopw [0, 4, 6, 7, 8] (fun u v _ _ _ wr => ∃ (t : ByteArray) (pre : List (List Nat)), u = .string t ∧ OwnR wr w.heap.size 9 1 v (rowsS pre) ∧ (allK (sl s)).1 = pre ++ (allK (sl t)).1 ∧ (allK (sl s)).2 = (s.size - t.size) + (allK (sl t)).2 ∧ t.size ≤ s.size ∧ pre.length + t.size ≤ s.size ∧ Below w.heap.size w wr) (fun u _ _ _ _ _ => (txtOf u).size)
  case atStart => exact ⟨s, [], rfl, k0.out, rfl, by omega, Nat.le_refl _, by simp, kb.out⟩
  case round =>
    obtain ⟨t, pre, rfl, go, hE, hN, hle, hpl, gb⟩ := hrel
    clear k0 kb
    by_cases h : (firstK (sl t)).2.2 = 0
    · have hf : firstK (sl t) = ((firstK (sl t)).1, (firstK (sl t)).2.1, 0) := by rw [← h]
      obtain ⟨x, hx⟩ : ∃ x, (firstK (sl t)).1 = x := ⟨_, rfl⟩
      obtain ⟨r, hr⟩ : ∃ r, (firstK (sl t)).2.1 = r := ⟨_, rfl⟩
      rw [hx, hr] at hf
      have hi := (first_is hf).1
      have hri := (first_is hf).2.2.1
      rw [sl_len] at hi
      have hst := allK_step hf
      rw [hst] at hE hN
      have hC := fun w => kr_First_ok t w (by omega) x r hf
      have HC := Lib.hid hC
      have HE := Lib.hid hE
      have hrb : Bys r := by rw [hri]; exact (sl_bys t).drop _
      have HSR := Lib.hid (sl_tx hrb)
      have hrz : (tx r).size = r.length := tx_size r
      have hN2 : (allK (sl s)).2 = (s.size - (tx r).size) + (allK r).2 := by rw [hN, hrz]; simp only; omega
      have HN := Lib.hid hN2
      have hrs : rowsS (pre ++ [x]) = rowsS pre ++ [[.string (tx x)]] := by rw [rowsS_app]; rfl
      have hrl := rowsS_len pre
      have HRS := Lib.hid hrs
      have HRL := Lib.hid hrl
      obtain ⟨v0, hv0⟩ : ∃ v0, v0 = w.heap.size := ⟨_, rfl⟩
      clear hC hE hf hx hr h hri hrb hN hN2 hst hrs hrl
      generalize tx r = R at *
      generalize tx x = X at *
      generalize rowsS pre = rows at *
      obtain ⟨p4, c4, rfl⟩ := go.isSlice
      go_wp2_with (first | (go_at_call 13; (with_reducible refine (HC.out _).mono ?_); rintro e w1 ⟨rfl, hb1⟩; have go1 := go.keep hb1; have gb1 := gb.trans (hb1.mono gb.size); have hnb := Blk.new' w1 9 (c := #[.string X]) [.string X] rfl; have HNW := Lib.hid (sl_one hnb); have HOW := Lib.hid (go1.alloc (.cells #[.string X] 9)); have HLO := Lib.hid go1.lt; have hgb := gb1.alloc gb1.size (.cells #[.string X] 9); have HBA := Lib.hid hgb.size; have HGB := Lib.hid hgb; have HONE : Hid (∀ r ∈ [[Value.string X]], ∀ u ∈ r, u.oneCell' = true) := Lib.hid (by simp [Value.oneCell']); have HLEN : Hid (rows.length + [[Value.string X]].length ≤ maxLen) := Lib.hid (by rw [HRL.out, List.length_singleton]; unfold maxLen; omega); have HBY : Hid ((rows.length + [[Value.string X]].length) * 16 ≤ 140737488355328) := Lib.hid (by rw [HRL.out, List.length_singleton]; omega); clear hnb go1 gb1 hgb hb1) | (refine wpList_append_rows rfl _ _ 28 rfl w.heap.size 9 i0 (.string ⟨#[]⟩) 1 16 Try.underlying28 hi0 hz0 hz1 hz2 rfl (by decide) _ rows rfl HOW.out (.slice (some ⟨w1.heap.size, 0, none⟩) 1 1) [[.string X]] rfl HNW.out HONE.out HLEN.out HBY.out HBA.out (.inr ⟨_, _, _, rfl⟩) ?_; intro v' w5 ho5 hg5 hv5; have gb5 := HGB.out.grown hg5 HBA.out (fun k e => (HLO.out k e).1); have GB5 := Lib.hid gb5; have HO5 := Lib.hid ho5; clear hg5 ho5 gb5))
      go_roundw
      case rel => exact ⟨R, pre ++ [x], rfl, by rw [HRS.out]; exact HO5.out, by rw [HE.out, HSR.out, List.append_assoc]; rfl, by rw [HSR.out]; exact HN.out, by omega, by simp; omega, GB5.out⟩
      case measure => simp [txtOf]; omega
    · have hC := fun w => kr_First_no t w (by omega) h
      have hst := allK_stop h
      rw [hst] at hE hN
      have hE2 : (allK (sl s)).1 = pre := by rw [hE]; simp
      have hN2 : (s.size : Int) - (t.size : Int) = (((allK (sl s)).2 : Nat) : Int) := by rw [hN]; simp only; omega
      have hle2 := first_err (sl t)
      have HC := Lib.hid hC
      have HN := Lib.hid hN2
      have HE := Lib.hid hE2
      clear hC hE hN hst hE2 hN2
      generalize (firstK (sl t)).2.2 = er at *
      have g1 : ((er : Int) != 0) = true := by simp; omega
      go_wp2_with (go_at_call 13; (with_reducible refine (HC.out _).mono ?_); rintro e w1 ⟨rfl, hb1⟩)
      go_ret2
      rw [← HE.out] at go
      exact ⟨_, congrArg (fun x => Ending.returned (.tuple #[_, .int .i64 x])) HN.out, go.keep hb1, gb.trans (hb1.mono gb.size)⟩
set_option maxRecDepth 100000 in
set_option maxHeartbeats 1000000 in
theorem kr_Same (l : List (List Nat)) (p q : Option Addr) (c d : Nat) (w : World) (hl : l.length ≤ 1000000) (hP : Sl w 1 (.slice p l.length c) (rowsS l)) (hQ : Sl w 1 (.slice q l.length d) (rowsS l)) :
    Calls Try.prog 18 #[.slice p l.length c, .slice q l.length d] w fun e w' => e = .returned (.bool true) ∧ Below w.heap.size w w' := by
  have HP := Lib.hid hP
  have HQ := Lib.hid hQ
  clear hP hQ
  go_enter Try.func18, Try.ntmps18
  go_wp2
  go_loopw [5] (fun i wr => ∃ j : Nat, j ≤ l.length ∧ i = .int .i64 (j : Int) ∧ Below w.heap.size w wr) (fun i _ => l.length - (intOf i).toNat)
  case atStart => exact ⟨0, by omega, rfl, Below.refl _ _⟩
  case round =>
    obtain ⟨j, hj, rfl, gb⟩ := hrel
    by_cases hlt : j < l.length
    · obtain ⟨a, rfl, c1⟩ := SlS.cell (HP.out.below gb) hlt
      obtain ⟨b, rfl, c2⟩ := SlS.cell (HQ.out.below gb) hlt
      have d1 : (j : Int) < (l.length : Int) := by omega
      have g1 := txt_same (tx (l.getD j []))
      generalize tx (l.getD j []) = X at *
      go_wp2
      go_quiet (fail)
      go_wp2
      go_roundw
      case rel => exact ⟨j + 1, by omega, by go_num, below_drewN gb _⟩
      case measure => simp [intOf]; omega
    · obtain rfl : j = l.length := by omega
      go_wp2
      go_ret
      exact ⟨rfl, gb⟩
end Go.Proofs.Ytlolcpfkaoembaa
namespace Go.Proofs.Ytlolcpfkaoembaa
open Go.RowKit Go.ChangeShapes Go.WideShapes
set_option linter.unusedVariables false

section
variable {H : Type} {enc : TypeId × Value → H} {w : World} {base : Nat} {spare : Nat → Bool} {held : Bool}
theorem open_texts {p0 : Option Addr} {len cap : Nat} {d : DataW H} {p : List MemPlace} (h : DataW.Trod enc Try.prog w base spare held 28 (.slice p0 len cap) d p) :
    ∃ l : List (List Nat), l.length = len ∧ Sl w 1 (.slice p0 len cap) (rowsS l) ∧ (∀ x ∈ l, Bys x) ∧ (Value.slice p0 len cap = .slice none 0 0 ∨ ∃ ad n c, Value.slice p0 len cap = .slice (some ad) n c) ∧ len ≤ cap ∧ cap ≤ maxLen := by
  obtain ⟨m, hm⟩ := h
  have hcells : (Value.slice p0 len cap).cells.toList = [.slice p0 len cap] := rfl
  rw [hcells] at hm
  rcases Deep.open_slice1 Try.underlying28 (by kernel_rfl) hm with ⟨hcs, _⟩ | ⟨a, len', cap', m', n, V, D, Pl, hcs, hb, hl, hcap, hmm, hx, hall⟩
  · cases hcs
    exact ⟨[], rfl, Sl.none 1, fun q h => (by cases h), .inl rfl, Nat.le_refl _, by simp [maxLen]⟩
  · cases hcs
    have hlm : len ≤ m' := by rw [hmm]; split <;> omega
    have each : ∀ i, i < len → ∃ q : ByteArray, V i = .string q := fun i hi => by
      obtain ⟨_, g0⟩ := hall i (by omega)
      obtain ⟨x, e0, _, w0⟩ := DataW.trod_string Try.underlying9 g0
      exact ⟨x, by simpa using e0⟩
    obtain ⟨q, hq⟩ := Deep.choose_lt each
    refine ⟨(List.range len).map fun i => sl (q i), by simp, ?_, fun x hx => ?_, .inr ⟨_, _, _, rfl⟩, by omega, by omega⟩
    · unfold rowsS
      rw [List.map_map]
      refine rows_of a len cap _ (fun i hi => rfl) (fun h0 => ?_) (fun i hi j x hj => ?_)
      · have := cell_lt (hall 0 (by omega)).1
        rwa [add_block] at this
      · obtain ⟨g0, _⟩ := hall i (by omega)
        have e0 := hq i hi
        match j, hj with
        | 0, hj =>
          have hj' : Value.string (tx (sl (q i))) = x := by simpa using hj
          rw [← hj', tx_sl, ← e0, Nat.mul_one]
          exact g0
        | _ + 1, hj => simp at hj
    · obtain ⟨i, hi, rfl⟩ := List.mem_map.1 hx
      exact sl_bys _
end
theorem Sl.taken {w : World} {k : Nat} {p : Option Addr} {n cap : Nat} {rows : List (List Value)} (h : Sl w k (.slice p n cap) rows) {m : Nat} (hm : m ≤ rows.length) (cap' : Nat) : Sl w k (.slice p m cap') (rows.take m) := by
  obtain ⟨h1, p', c', e, h3⟩ := h
  cases e
  refine ⟨fun r hr => h1 r (List.mem_of_mem_take hr), p, cap', by rw [List.length_take, Nat.min_eq_left hm], fun i r hr => h3 i r ?_⟩
  rw [List.getElem?_take] at hr
  split at hr
  · exact hr
  · cases hr
/-- numbers as rows -/
def rowsE (l : List Nat) : List (List Value) := l.map fun (x : Nat) => [.int .i64 (x : Int)]
theorem rowsE_len (l : List Nat) : (rowsE l).length = l.length := by simp [rowsE]
theorem rowsE_at {l : List Nat} {j : Nat} (h : j < l.length) : (rowsE l)[j]? = some [.int .i64 ((l.getD j 0 : Nat) : Int)] := by simp [rowsE, h]
theorem rowsE_snoc (l : List Nat) (x : Nat) : rowsE (l ++ [x]) = rowsE l ++ [[.int .i64 (x : Int)]] := by simp [rowsE]
theorem SlE.cell {w : World} {p : Option Addr} {n cap : Nat} {l : List Nat} (h : Sl w 1 (.slice p n cap) (rowsE l)) {j : Nat} (hj : j < l.length) : ∃ a : Addr, p = some a ∧ w.cell? (a.add j) = some (.int .i64 ((l.getD j 0 : Nat) : Int)) := by
  obtain ⟨a, e, hc⟩ := h.row (rowsE_at hj)
  exact ⟨a, e, by have := hc 0 _ rfl; rw [Nat.mul_one] at this; exact this⟩
theorem info_intK : (Try.prog.info? 3).map (fun i => (i.zero, i.size, i.bytes)) = some (some (.int .i64 0), 1, 8) := by kernel_rfl
/-- where frames end -/
def endsK (l : List (List Nat)) (j : Nat) : List Nat := (List.range j).map fun i => endK l (i + 1)
theorem endsK_len (l : List (List Nat)) (j : Nat) : (endsK l j).length = j := by simp [endsK]
theorem endsK_at (l : List (List Nat)) {j i : Nat} (h : i < j) : (endsK l j).getD i 0 = endK l (i + 1) := map_range_getD _ _ _ h
theorem endsK_snoc (l : List (List Nat)) (j : Nat) : endsK l (j + 1) = endsK l j ++ [endK l (j + 1)] := by unfold endsK; rw [List.range_succ, List.map_append]; rfl
theorem endK_all (l : List (List Nat)) : endK l l.length = (framesK l).length := by unfold endK; rw [List.take_length]
theorem endK_zero (l : List (List Nat)) : endK l 0 = 0 := rfl
theorem frames_take {l : List (List Nat)} {j : Nat} (h : j < l.length) : framesK (l.take (j + 1)) = framesK (l.take j) ++ frameK (l.getD j []) := by
  unfold framesK
  rw [List.take_succ_eq_append_getElem h, List.flatMap_append]
  simp [h]
theorem frames_bys {l : List (List Nat)} (h : ∀ x ∈ l, Bys x) : Bys (framesK l) := Bys.of fun y hy => by
  unfold framesK at hy
  obtain ⟨x, hx, hy⟩ := List.mem_flatMap.1 hy
  exact (frame_bys (h x hx)).mem hy
theorem frames_len {l : List (List Nat)} {n : Nat} (h : ∀ x ∈ l, x.length ≤ n) : (framesK l).length ≤ (6 + n) * l.length := by
  induction l with
  | nil => simp [framesK]
  | cons x l ih =>
    have h1 := h x (by simp)
    have h2 := ih fun y hy => h y (by simp [hy])
    unfold framesK at h2 ⊢
    rw [List.flatMap_cons, List.length_append, frame_len, List.length_cons, Nat.mul_add]
    omega
theorem endK_mono (l : List (List Nat)) {i j : Nat} (h : i ≤ j) : endK l i ≤ endK l j := by
  unfold endK framesK
  have e : l.take i = (l.take j).take i := by rw [List.take_take, Nat.min_eq_left h]
  have e2 : ((l.take j).flatMap frameK).length = (((l.take j).take i).flatMap frameK).length + (((l.take j).drop i).flatMap frameK).length := by
    rw [← List.length_append, ← List.flatMap_append, List.take_append_drop]
  rw [e]
  omega
end Go.Proofs.Ytlolcpfkaoembaa
