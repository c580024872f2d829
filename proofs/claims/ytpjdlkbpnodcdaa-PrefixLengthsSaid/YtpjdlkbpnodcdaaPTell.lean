/- Trees in memory; walks of what takes the lightest one, and of what tells the depths. -/
import Derived.Test.YtpjdlkbpnodcdaaPIns
import Derived.Test.YtpjdlkbpnodcdaaPQue
import Derived.Test.YtpjdlkbpnodcdaaPGrN
namespace Go.Proofs.Ytpjdlkbpnodcdaa
open Go.RowKit
set_option linter.unusedVariables false

/-- the tree lies in block b -/
def Tr (w : World) : HT → Nat → Prop
  | .lf n s, b => Blk w b 85 (leafN n s)
  | .nd _ n l r, b => ∃ bl br, Blk w b 85 (node n 0 (.pointer (some ⟨bl, 0, none⟩)) (.pointer (some ⟨br, 0, none⟩))) ∧ Tr w l bl ∧ Tr w r br
/-- all trees' blocks are as they were -/
def KeepT (w w' : World) : Prop := ∀ b vs, Blk w b 85 vs → Blk w' b 85 vs
theorem KeepT.refl (w : World) : KeepT w w := fun _ _ h => h
theorem KeepT.trans {a b c : World} (h : KeepT a b) (k : KeepT b c) : KeepT a c := fun _ _ x => k _ _ (h _ _ x)
theorem KeepT.of_below {w w' : World} (h : Below w.heap.size w w') : KeepT w w' := fun _ _ k => k.below h k.lt
theorem KeepT.setCell {w : World} {b j : Nat} {t : TypeId} {vs : List Value} (hb : Blk w b t vs) (ht : t ≠ 85) (v : Value) : KeepT w (w.setCell ⟨b, j, none⟩ v) := fun b' vs' k => by
  refine k.other (fun e => ?_) v
  simp only at e
  subst e
  unfold Blk at hb k
  rw [hb] at k
  simp at k
  exact ht k.2
theorem KeepT.grown {w w' : World} {row : Option Nat} (hg : w.grownBy w' row) (hne : ∀ i b vs, row = some i → Blk w b 85 vs → i ≠ b) : KeepT w w' := fun b vs k => k.grownO hg (fun i e => hne i b vs e k)
theorem Tr.keep {w w' : World} (h : KeepT w w') : ∀ {t : HT} {b : Nat}, Tr w t b → Tr w' t b
  | .lf _ _, _, k => h _ _ k
  | .nd _ _ l r, _, ⟨bl, br, k1, k2, k3⟩ => ⟨bl, br, h _ _ k1, k2.keep h, k3.keep h⟩
theorem Tr.wt {w : World} {t : HT} {b : Nat} (h : Tr w t b) : ∃ s l r, Blk w b 85 (node t.wt s l r) := by
  match t, h with
  | .lf _ _, h => exact ⟨_, _, _, h⟩
  | .nd _ _ _ _, ⟨bl, br, h, _, _⟩ => exact ⟨_, _, _, h⟩
/-- trees with the blocks they lie in -/
def bptr (q : HT × Nat) : Value := .pointer (some ⟨q.2, 0, none⟩)
/-- the two rows, as they wait in their two variables -/
structure Rows2 (W : World) (base SB PB : Nat) (S Q : List (HT × Nat)) (vs vq : Value) : Prop where
  bS : Blk W SB 81 [vs]
  bQ : Blk W PB 81 [vq]
  qS : QS W 0 83 vs (S.map bptr)
  qQ : QS W base 83 vq (Q.map bptr)
  tr : ∀ q ∈ S ++ Q, Tr W q.1 q.2
  lo : ∀ b, vs.ownBlock = some b → b < base
/-- a slice cut at its head, as the walk writes it -/
theorem run_tail (g off len n cap : Nat) (hv : len = n + 1) (hc : n + 1 ≤ cap) (w : World) :
    (Instr.slice 81 (.slice (some ⟨g, off, none⟩) len cap) (some (.int .i64 1)) none none).run Try.prog w = .ok (.slice (if cap = 1 then some ⟨g, off, none⟩ else some ⟨g, off + 1, none⟩) n (cap - 1)) w := by
  subst hv
  simp [Instr.slice, Instr.sliceBounds, Instr.sliceBound, asIntOf, Sem.run_bind, run_underlying Try.underlying81 w]
  rw [if_pos (by omega)]
  simp [Addr.add_mid]
/-- what was taken: the first one of the one row or of the other -/
def Took (W : World) (base SB PB : Nat) (S Q : List (HT × Nat)) (e : Ending) (W' : World) : Prop :=
  ∃ (q : HT × Nat) (S' Q' : List (HT × Nat)) (vs vq : Value), e = .returned (bptr q) ∧ Pick (S.map (·.1)) (Q.map (·.1)) q.1 (S'.map (·.1)) (Q'.map (·.1)) ∧ Rows2 W' base SB PB S' Q' vs vq ∧ Tr W' q.1 q.2 ∧ KeepT W W' ∧ (∀ B, B ≤ SB → B ≤ PB → Below B W W') ∧ (S'.length + Q'.length + 1 = S.length + Q.length)
theorem blk_same {W : World} {b : Nat} {t : TypeId} {c : Value} (h : Blk W b t [c]) (x : Value) : Blk (W.setCell ⟨b, 0, none⟩ x) b t [x] := h.set 0 x
theorem Rows2.takeS {W : World} {base SB PB : Nat} {q : HT × Nat} {S Q : List (HT × Nat)} {vs vq vs' : Value} (h : Rows2 W base SB PB (q :: S) Q vs vq) (hne : SB ≠ PB) (n : Nat) (h' : QS W 0 83 vs' (S.map bptr)) (hob : vs'.ownBlock = vs.ownBlock) (hf : fromS ((q :: S).map (·.1)) (Q.map (·.1)) = true) : Took W base SB PB (q :: S) Q (.returned (bptr q)) ((W.drewN n).setCell ⟨SB, 0, none⟩ vs') := by
  have k1 : KeepT W ((W.drewN n).setCell ⟨SB, 0, none⟩ vs') := KeepT.setCell (w := W.drewN n) (h.bS.drewN n) (by decide) _
  refine ⟨q, S, Q, vs', vq, rfl, ⟨.inl ⟨rfl, rfl, hf⟩⟩, ⟨blk_same (h.bS.drewN n) _, (h.bQ.drewN n).other (by exact hne) _, (h'.drewN n).other (h.bS.drewN n) (by decide) _, (h.qQ.drewN n).other (h.bS.drewN n) (by decide) _, fun p hp => (h.tr p (List.mem_cons_of_mem _ hp)).keep k1, by rw [hob]; exact h.lo⟩, (h.tr q (by simp)).keep k1, k1, fun B hB _ => (below_drewN (Below.refl _ _) n).setCell hB _, by simp; omega⟩
theorem Rows2.takeQ {W : World} {base SB PB : Nat} {q : HT × Nat} {S Q : List (HT × Nat)} {vs vq vq' : Value} (h : Rows2 W base SB PB S (q :: Q) vs vq) (hne : SB ≠ PB) (n : Nat) (h' : QS W base 83 vq' (Q.map bptr)) (hf : fromS (S.map (·.1)) ((q :: Q).map (·.1)) = false) : Took W base SB PB S (q :: Q) (.returned (bptr q)) ((W.drewN n).setCell ⟨PB, 0, none⟩ vq') := by
  have k1 : KeepT W ((W.drewN n).setCell ⟨PB, 0, none⟩ vq') := KeepT.setCell (w := W.drewN n) (h.bQ.drewN n) (by decide) _
  refine ⟨q, S, Q, vs, vq', rfl, ⟨.inr ⟨rfl, rfl, hf⟩⟩, ⟨(h.bS.drewN n).other (by exact fun e => hne e.symm) _, blk_same (h.bQ.drewN n) _, (h.qS.drewN n).other (h.bQ.drewN n) (by decide) _, (h'.drewN n).other (h.bQ.drewN n) (by decide) _, fun p hp => (h.tr p (by rcases List.mem_append.1 hp with hp | hp <;> simp [hp])).keep k1, h.lo⟩, (h.tr q (by simp)).keep k1, k1, fun B _ hB => (below_drewN (Below.refl _ _) n).setCell hB _, by simp; omega⟩
set_option maxRecDepth 100000 in
set_option maxHeartbeats 1000000 in
theorem p_light1 (base SB PB : Nat) (q : HT × Nat) (S : List (HT × Nat)) (vs vq : Value) (w : World) (h : Rows2 w base SB PB (q :: S) [] vs vq) (hne : SB ≠ PB) :
    Calls Try.prog 60 #[.pointer (some ⟨SB, 0, none⟩), .pointer (some ⟨PB, 0, none⟩)] w (Took w base SB PB (q :: S) []) := by
  have c1 := h.bS.cell 0
  have c2 := h.bQ.cell 0
  have f1 := h.bS.free 0
  have f2 := h.bQ.free 0
  simp only [List.getElem?_cons_zero] at c1 c2
  obtain ⟨g, off, cap, rfl, hc1, hc2, hcell, htail, hob⟩ := h.qS.head
  obtain ⟨A, capq, rfl, _⟩ := id h.qQ
  have hfin := fun n => h.takeS hne n htail hob rfl
  obtain ⟨len, hlen⟩ : ∃ len, len = (S.map bptr).length + 1 := ⟨_, rfl⟩
  have hrt := fun w => run_tail g off len _ cap hlen hc1 w
  generalize (if cap = 1 then some (⟨g, off, none⟩ : Addr) else some ⟨g, off + 1, none⟩) = A' at *
  rw [← hlen] at c1
  simp only [List.map_nil, List.length_nil] at c2
  generalize (S.map bptr).length = n at *
  have i1 : (0 : Int) < (len : Int) := by omega
  have i2 : 0 < len := by omega
  have d1 : ((len : Int) == 0) = false := by rw [beq_eq_false_iff_ne]; omega
  have d2 : decide (len = 0) = false := by simp; omega
  have hfin := Lib.hid hfin
  have hc : w.cell? ⟨g, off, none⟩ = some (.pointer (some ⟨q.2, 0, none⟩)) := hcell
  unfold bptr at hfin
  clear htail hob h hc1 hc2 hcell hlen
  go_enter Try.func60, Try.ntmps60
  go_wp2_with fail
  go_quiet (fail)
  go_wp2
  go_ret
  exact hfin.out _
set_option maxRecDepth 100000 in
set_option maxHeartbeats 1000000 in
theorem p_light2 (base SB PB : Nat) (s q : HT × Nat) (S Q : List (HT × Nat)) (vs vq : Value) (w : World) (h : Rows2 w base SB PB (s :: S) (q :: Q) vs vq) (hne : SB ≠ PB) (hlt : ¬ q.1.wt < s.1.wt) :
    Calls Try.prog 60 #[.pointer (some ⟨SB, 0, none⟩), .pointer (some ⟨PB, 0, none⟩)] w (Took w base SB PB (s :: S) (q :: Q)) := by
  have c1 := h.bS.cell 0
  have c2 := h.bQ.cell 0
  have f1 := h.bS.free 0
  have f2 := h.bQ.free 0
  simp only [List.getElem?_cons_zero] at c1 c2
  obtain ⟨g, off, cap, rfl, hc1, hc2, hcell, htail, hob⟩ := h.qS.head
  obtain ⟨gq, offq, capq, rfl, hq1, hq2, hcellq, htailq, hobq⟩ := h.qQ.head
  obtain ⟨_, _, _, ts⟩ := (h.tr s (by simp)).wt
  obtain ⟨_, _, _, tq⟩ := (h.tr q (by simp)).wt
  have w1 := ts.cell 0
  have w2 := tq.cell 0
  simp only [node, List.getElem?_cons_zero] at w1 w2
  have hfin := fun n => h.takeS hne n htail hob (by simp [fromS]; omega)
  obtain ⟨len, hlen⟩ : ∃ len, len = (S.map bptr).length + 1 := ⟨_, rfl⟩
  obtain ⟨len2, hlen2⟩ : ∃ len, len = (Q.map bptr).length + 1 := ⟨_, rfl⟩
  have hrt := fun w => run_tail g off len _ cap hlen hc1 w
  rw [← hlen] at c1
  rw [← hlen2] at c2
  generalize (if cap = 1 then some (⟨g, off, none⟩ : Addr) else some ⟨g, off + 1, none⟩) = A' at *
  generalize (S.map bptr).length = n at *
  generalize (Q.map bptr).length = m at *
  have i1 : (0 : Int) < (len : Int) := by omega
  have i2 : 0 < len := by omega
  have i3 : (0 : Int) < (len2 : Int) := by omega
  have i4 : 0 < len2 := by omega
  have d1 : ((len : Int) == 0) = false := by rw [beq_eq_false_iff_ne]; omega
  have d2 : decide (len = 0) = false := by simp; omega
  have d3 : decide (0 < len2) = true := by simp; omega
  have hfin := Lib.hid hfin
  have hc : w.cell? ⟨g, off, none⟩ = some (.pointer (some ⟨s.2, 0, none⟩)) := hcell
  have hcq : w.cell? ⟨gq, offq, none⟩ = some (.pointer (some ⟨q.2, 0, none⟩)) := hcellq
  obtain ⟨ws, hws⟩ : ∃ x, s.1.wt = x := ⟨_, rfl⟩
  obtain ⟨wq, hwq⟩ : ∃ x, q.1.wt = x := ⟨_, rfl⟩
  rw [hws, hwq] at hlt
  rw [hws] at w1
  rw [hwq] at w2
  have d4 : decide (wq < ws) = false := by simp; omega
  have d5 : decide ((wq : Int) < (ws : Int)) = false := by simp; omega
  unfold bptr at hfin
  clear htail hob h hc1 hc2 hcell hlen htailq hobq hq1 hq2 hcellq hlen2 ts tq hws hwq
  go_enter Try.func60, Try.ntmps60
  go_wp2_with fail
  go_quiet (fail)
  go_wp2
  go_ret
  exact hfin.out _
set_option maxRecDepth 100000 in
set_option maxHeartbeats 1000000 in
theorem p_light3 (base SB PB : Nat) (s q : HT × Nat) (S Q : List (HT × Nat)) (vs vq : Value) (w : World) (h : Rows2 w base SB PB (s :: S) (q :: Q) vs vq) (hne : SB ≠ PB) (hlt : q.1.wt < s.1.wt) :
    Calls Try.prog 60 #[.pointer (some ⟨SB, 0, none⟩), .pointer (some ⟨PB, 0, none⟩)] w (Took w base SB PB (s :: S) (q :: Q)) := by
  have c1 := h.bS.cell 0
  have c2 := h.bQ.cell 0
  have f1 := h.bS.free 0
  have f2 := h.bQ.free 0
  simp only [List.getElem?_cons_zero] at c1 c2
  obtain ⟨g, off, cap, rfl, hc1, hc2, hcell, htail, hob⟩ := h.qS.head
  obtain ⟨gq, offq, capq, rfl, hq1, hq2, hcellq, htailq, hobq⟩ := h.qQ.head
  obtain ⟨_, _, _, ts⟩ := (h.tr s (by simp)).wt
  obtain ⟨_, _, _, tq⟩ := (h.tr q (by simp)).wt
  have w1 := ts.cell 0
  have w2 := tq.cell 0
  simp only [node, List.getElem?_cons_zero] at w1 w2
  have hfin := fun n => h.takeQ hne n htailq (by simp [fromS]; omega)
  obtain ⟨len, hlen⟩ : ∃ len, len = (Q.map bptr).length + 1 := ⟨_, rfl⟩
  obtain ⟨len2, hlen2⟩ : ∃ len, len = (S.map bptr).length + 1 := ⟨_, rfl⟩
  have hrt := fun w => run_tail gq offq len _ capq hlen hq1 w
  rw [← hlen2] at c1
  rw [← hlen] at c2
  generalize (if capq = 1 then some (⟨gq, offq, none⟩ : Addr) else some ⟨gq, offq + 1, none⟩) = A' at *
  generalize (S.map bptr).length = n at *
  generalize (Q.map bptr).length = m at *
  have i1 : (0 : Int) < (len : Int) := by omega
  have i2 : 0 < len := by omega
  have i3 : (0 : Int) < (len2 : Int) := by omega
  have i4 : 0 < len2 := by omega
  have d1 : ((len2 : Int) == 0) = false := by rw [beq_eq_false_iff_ne]; omega
  have d2 : decide (len2 = 0) = false := by simp; omega
  have d3 : decide (0 < len) = true := by simp; omega
  have hfin := Lib.hid hfin
  have hc : w.cell? ⟨g, off, none⟩ = some (.pointer (some ⟨s.2, 0, none⟩)) := hcell
  have hcq : w.cell? ⟨gq, offq, none⟩ = some (.pointer (some ⟨q.2, 0, none⟩)) := hcellq
  obtain ⟨ws, hws⟩ : ∃ x, s.1.wt = x := ⟨_, rfl⟩
  obtain ⟨wq, hwq⟩ : ∃ x, q.1.wt = x := ⟨_, rfl⟩
  rw [hws, hwq] at hlt
  rw [hws] at w1
  rw [hwq] at w2
  have d4 : decide (wq < ws) = true := by simp; omega
  have d5 : decide ((wq : Int) < (ws : Int)) = true := by simp; omega
  unfold bptr at hfin
  clear htail hob h hc1 hc2 hcell hlen htailq hobq hq1 hq2 hcellq hlen2 ts tq hws hwq
  go_enter Try.func60, Try.ntmps60
  go_wp2_with fail
  go_quiet (fail)
  go_wp2
  go_ret
  exact hfin.out _
set_option maxRecDepth 100000 in
set_option maxHeartbeats 1000000 in
theorem p_light4 (base SB PB : Nat) (q : HT × Nat) (Q : List (HT × Nat)) (vs vq : Value) (w : World) (h : Rows2 w base SB PB [] (q :: Q) vs vq) (hne : SB ≠ PB) :
    Calls Try.prog 60 #[.pointer (some ⟨SB, 0, none⟩), .pointer (some ⟨PB, 0, none⟩)] w (Took w base SB PB [] (q :: Q)) := by
  have c1 := h.bS.cell 0
  have c2 := h.bQ.cell 0
  have f1 := h.bS.free 0
  have f2 := h.bQ.free 0
  simp only [List.getElem?_cons_zero] at c1 c2
  obtain ⟨g, off, cap, rfl, hc1, hc2, hcell, htail, hob⟩ := h.qQ.head
  obtain ⟨A, capq, rfl, _⟩ := id h.qS
  have hfin := fun n => h.takeQ hne n htail rfl
  obtain ⟨len, hlen⟩ : ∃ len, len = (Q.map bptr).length + 1 := ⟨_, rfl⟩
  have hrt := fun w => run_tail g off len _ cap hlen hc1 w
  generalize (if cap = 1 then some (⟨g, off, none⟩ : Addr) else some ⟨g, off + 1, none⟩) = A' at *
  rw [← hlen] at c2
  simp only [List.map_nil, List.length_nil] at c1
  generalize (Q.map bptr).length = n at *
  have i1 : (0 : Int) < (len : Int) := by omega
  have i2 : 0 < len := by omega
  have hfin := Lib.hid hfin
  have hc : w.cell? ⟨g, off, none⟩ = some (.pointer (some ⟨q.2, 0, none⟩)) := hcell
  unfold bptr at hfin
  clear htail hob h hc1 hc2 hcell hlen
  go_enter Try.func60, Try.ntmps60
  go_wp2_with fail
  go_quiet (fail)
  go_wp2
  go_ret
  exact hfin.out _
theorem p_lightest (base SB PB : Nat) (S Q : List (HT × Nat)) (vs vq : Value) (w : World) (h : Rows2 w base SB PB S Q vs vq) (hne : SB ≠ PB) (h0 : 0 < S.length + Q.length) :
    Calls Try.prog 60 #[.pointer (some ⟨SB, 0, none⟩), .pointer (some ⟨PB, 0, none⟩)] w (Took w base SB PB S Q) := by
  match S, Q, h0, h with
  | [], [], h0, _ => simp at h0
  | q :: S, [], _, h => exact p_light1 base SB PB q S vs vq w h hne
  | [], q :: Q, _, h => exact p_light4 base SB PB q Q vs vq w h hne
  | s :: S, q :: Q, _, h =>
    by_cases hlt : q.1.wt < s.1.wt
    · exact p_light3 base SB PB s q S Q vs vq w h hne hlt
    · exact p_light2 base SB PB s q S Q vs vq w h hne hlt
set_option maxRecDepth 100000 in
set_option maxHeartbeats 1000000 in
/-- the depths are told into a row -/
theorem p_tell (g cap len : Nat) : ∀ (t : HT) (b d : Nat) (L : List Nat) (w : World), Tr w t b → Blk w g 3 (ints .i64 (nn L)) → L.length = len → (∀ s ∈ t.syms, s < len) → d + t.syms.length ≤ 1000 → len ≤ 1000 →
    Calls Try.prog 47 #[.pointer (some ⟨b, 0, none⟩), .slice (some ⟨g, 0, none⟩) len cap, .int .i64 (d : Int)] w fun e w' => e = .returned (.tuple #[]) ∧ Turned w w' g 3 (ints .i64 (nn (t.write d L)))
  | .lf n s, b, d, L, w, hT, hB, hL, hs, hd, hl => by
    have hT' : Blk w b 85 (leafN n s) := hT
    have c1 := hT'.cell 1
    have c2 := hT'.cell 2
    simp only [leafN, node, List.getElem?_cons_zero, List.getElem?_cons_succ] at c1 c2
    have hsl := hs s (by simp [HT.syms])
    have c3 := hB.nat (j := s) (by omega)
    have f3 := hB.free s
    have i1 : (s : Int) < (len : Int) := by omega
    have hfin := ((Turned.refl hB).put s (.int .i64 (d : Int))).2
    have hfin2 : Turned w (w.setCell ⟨g, s, none⟩ (.int .i64 (d : Int))) g 3 (ints .i64 (nn (L.set s d))) := ⟨grown_setCell w ⟨g, s, none⟩ _, hB.setNat s d⟩
    have HF := Lib.hid hfin2
    clear hfin hfin2 hT' hT hB hs hL
    unfold HT.write
    go_enter Try.func47, Try.ntmps47
    go_wp2
    refine bodyPost_ret (results_none rfl _ _ _) rfl ⟨rfl, HF.out⟩
  | .nd i n l r, b, d, L, w, hT, hB, hL, hs, hd, hl => by
    obtain ⟨bl, br, hT', hTl, hTr⟩ := hT
    have c1 := hT'.cell 2
    simp only [node, List.getElem?_cons_zero, List.getElem?_cons_succ] at c1
    have hsl : ∀ s ∈ l.syms, s < len := fun s h => hs s (by simp [HT.syms, h])
    have hsr : ∀ s ∈ r.syms, s < len := fun s h => hs s (by simp [HT.syms, h])
    simp only [HT.syms, List.length_append] at hd
    have hpos : ∀ t : HT, 0 < t.syms.length := fun t => by
      induction t with
      | lf _ _ => simp [HT.syms]
      | nd _ _ l r ih1 ih2 => simp only [HT.syms, List.length_append]; omega
    have hpl := hpos l
    have hpr := hpos r
    have hC1 := p_tell g cap len l bl (d + 1) L w hTl hB hL hsl (by omega) hl
    have ed : ((d + 1 : Nat) : Int) = (d : Int) + 1 := by simp
    rw [ed] at hC1
    have hC2 := fun (w1 : World) (h : Turned w w1 g 3 (ints .i64 (nn (l.write (d + 1) L)))) => p_tell g cap len r br (d + 1) (l.write (d + 1) L) w1 (hTr.keep (fun b vs k => h.other k (fun e => by
      subst e
      unfold Blk at hB k
      rw [k] at hB
      simp at hB))) h.2 (by rw [HT.write_len]; exact hL) hsr (by omega) hl
    have hK := fun (w1 : World) (h : Turned w w1 g 3 (ints .i64 (nn (l.write (d + 1) L)))) => (h.other hT' (fun e => by
      subst e
      unfold Blk at hB hT'
      rw [hT'] at hB
      simp at hB)).cell 3
    simp only [node, List.getElem?_cons_zero, List.getElem?_cons_succ] at hK
    rw [ed] at hC2
    have i1 : (d : Int) ≤ 1000 := by omega
    have HC1 := Lib.hid hC1
    have HC2 := Lib.hid hC2
    have HK := Lib.hid hK
    clear hC1 hC2 hK hT' hTl hTr hB hs hL hsl hsr hd ed hpos
    unfold HT.write
    go_enter Try.func47, Try.ntmps47
    go_wp2_with fail
    (with_reducible refine HC1.out.mono ?_)
    rintro e w9 ⟨rfl, ht9⟩
    have c2 := HK.out w9 ht9
    have HC := Lib.hid (HC2.out w9 ht9)
    clear c1
    go_wp2_with fail
    (with_reducible refine HC.out.mono ?_)
    rintro e w10 ⟨rfl, ht10⟩
    have T := ht9.trans ht10
    go_wp2
    go_end0
    exact ⟨rfl, T⟩
end Go.Proofs.Ytpjdlkbpnodcdaa
