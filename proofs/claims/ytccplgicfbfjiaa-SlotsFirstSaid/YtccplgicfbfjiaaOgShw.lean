/- What the laws of stage 16 keep over calls of the disk; 'full'. -/
import Derived.Test.YtccplgicfbfjiaaOgKit
import Derived.Test.YtccplgicfbfjiaaGrd
import Derived.Test.YtccplgicfbfjiaaG4
namespace Go.Proofs.Ytccplgicfbfjiaa
open Go.RowKit
set_option linter.unusedVariables false

theorem DkF.notTy {base : Nat} {w : World} {D : Nat} {d : DiskM} {F : Nat → Prop} (h : DkF base w D d F) {B : Nat} {e : TypeId} {k n : Nat} {v : Value} {xs : List Value} (h1 : e ≠ 48) (h2 : e ≠ 64) (h3 : e ≠ 3) (o : w.ownsRow B e k v n xs) : ∀ b, v.ownBlock = some b → ¬ F b := fun b hb hf => by
  obtain ⟨S, M, kk, E, V, q, hx, rfl⟩ := h
  rcases o.2 with ⟨hv, _⟩ | ⟨g, cap, cur, hv, hg, hh, r⟩
  · rw [hv] at hb; cases hb
  · rw [hv] at hb
    cases hb
    change w.heap[g]? = _ at hh
    rcases hf with e0 | e0 | e0 | e2 | ⟨j, e2⟩
    · have := hx.blk
      unfold Blk at this
      change g = D at e0
      rw [← e0, hh] at this
      simp at this
      exact h1 this.2
    · have := hx.sec
      unfold Blk at this
      change g = S at e0
      rw [← e0, hh] at this
      simp at this
      exact h2 this.2
    · obtain ⟨es, clock, hm, _⟩ := hx.pen.map
      change g = M at e0
      rw [← e0, hh] at hm
      simp at hm
    · obtain ⟨⟨L, l⟩, e3, e4⟩ := Option.map_eq_some_iff.1 e2
      change L = g at e4
      have := (hx.left _ _ e3).1
      unfold Blk at this
      rw [e4, hh] at this
      simp at this
      exact h3 this.2
    · rcases (hx.own j).2.2 with ⟨hv2, _⟩ | ⟨g2, cap2, cur2, hv2, hg2, hh2, r2⟩
      · rw [hv2] at e2; cases e2
      · rw [hv2] at e2
        have e5 : g2 = g := by simpa [Value.ownBlock] using e2
        rw [e5, hh] at hh2
        simp at hh2
        exact h2 hh2.2
/-- an own slice of another type stays over a call of the disk's -/
theorem DkF.ownsRow {base : Nat} {w w' : World} {D : Nat} {d : DiskM} {F F' : Nat → Prop} (h : DkF base w D d F) (t : Turn base w w' F F') {B : Nat} {e : TypeId} {k n : Nat} {v : Value} {xs : List Value} (h1 : e ≠ 48) (h2 : e ≠ 64) (h3 : e ≠ 3) (o : w.ownsRow B e k v n xs) : w'.ownsRow B e k v n xs := by
  have hn := h.notTy h1 h2 h3 o
  obtain ⟨o1, o2⟩ := o
  refine ⟨o1, ?_⟩
  rcases o2 with o2 | ⟨g, cap, cur, hv, hg, hh, r⟩
  · exact .inl o2
  · exact .inr ⟨g, cap, cur, hv, hg, (t.out g (Array.getElem?_eq_some_iff.1 hh).1 (hn g (by rw [hv]; rfl))).trans hh, r⟩
theorem DkF.ownB {base : Nat} {w w' : World} {D : Nat} {d : DiskM} {F F' : Nat → Prop} (h : DkF base w D d F) (t : Turn base w w' F F') {B : Nat} {v : Value} {l : List Int} (o : OwnB w B 5 v l) : OwnB w' B 5 v l := h.ownsRow t (by decide) (by decide) (by decide) o
theorem DkF.ownS {base : Nat} {w w' : World} {D : Nat} {d : DiskM} {F F' : Nat → Prop} (h : DkF base w D d F) (t : Turn base w w' F F') {B k : Nat} {v : Value} {rows : List (List Value)} (o : OwnR w B 9 k v rows) : OwnR w' B 9 k v rows := ⟨o.1, h.ownsRow t (by decide) (by decide) (by decide) o.2⟩
/-- a disk stays while an own slice of another type grows -/
theorem DkF.grown {base : Nat} {w w' : World} {D : Nat} {d : DiskM} {F : Nat → Prop} (h : DkF base w D d F) {o : Option Nat} (hg : w.grownBy w' o) (ho : ∀ b, o = some b → ¬ F b) : DkF base w' D d F :=
  h.keep fun i hi => hg.block i (h.lt i hi).2 fun e => ho i e.symm hi
theorem f_Safe {base : Nat} {w : World} {D : Nat} {d : DiskM} {F : Nat → Prop} (h : DkF base w D d F) (hb : DkB d) (i : Int) (hi : (Lit.int .i64 i).wf = true) (s : ByteArray) (he : sfD d i = sl s) :
    Calls Try.prog 12 #[ptD D, .int .i64 i] w fun x w' => x = .returned (.string s) ∧ Below w.heap.size w w' := by
  obtain ⟨S, M, k, E, V, q, hx, _⟩ := h
  exact d_Safe hx hb i hi s he
theorem f_Off {base : Nat} {w : World} {D : Nat} {d : DiskM} {F : Nat → Prop} (h : DkF base w D d F) (after : Int) (ha : (Lit.int .i64 after).wf = true) :
    Calls Try.prog 13 #[ptD D, .int .i64 after] w fun x w' => x = .returned (.tuple #[]) ∧ ∃ F', DkF base w' D (cutD d after) F' ∧ Turn base w w' F F' := by
  obtain ⟨S, M, k, E, V, q, hx, rfl⟩ := h
  exact (d_Off hx after ha).mono fun _ _ ⟨e, q', h', t⟩ => ⟨e, _, ⟨S, M, k, E, V, q', h', rfl⟩, t⟩
theorem f_Crash {base : Nat} {w : World} {D : Nat} {d : DiskM} {F : Nat → Prop} (h : DkF base w D d F) (hb : DkB d) (keep : List Nat) (p : Option Addr) (c : Nat) (hk : keep.length ≤ 1000) (hy : Bys keep) (hS : Sl w 1 (.slice p keep.length c) (rowsU .u8 keep)) (hka : 0 < keep.length → ∀ a, p = some a → a.block < base) (d' : DiskM) (hd : crashD d keep = d') :
    Calls Try.prog 10 #[ptD D, .slice p keep.length c] w fun x w' => x = .returned (.tuple #[]) ∧ ∃ F', DkF base w' D d' F' ∧ Turn base w w' F F' := by
  obtain ⟨S, M, k, E, V, q, hx, rfl⟩ := h
  exact (d_Crash hx hb keep p c hk hy hS (fun hn a e hf => by have := hka hn a e; have := (hx.lt _ hf).1; omega) d' hd).mono fun _ _ ⟨e, k', E', V', q', h', t⟩ => ⟨e, _, ⟨S, M, k', E', V', q', h', rfl⟩, t⟩
set_option maxRecDepth 100000 in
theorem l16_full (s : ByteArray) (w : World) (hs : s.size ≤ 65536) : Calls Try.prog 15 #[.string s] w fun e w' => e = .returned (.string (fullT s)) ∧ Below w.heap.size w w' := by
  have HB := Lib.hid (r13_Blank w)
  have hz : (tx (zerN 32)).size = 32 := by rw [tx_size, zerN_len]
  have hsz : (s ++ tx (zerN 32)).size = s.size + 32 := by rw [ByteArray.size_append, hz]
  have hadd := fun w' => run_string_add_sum (P := Try.prog) w' s (tx (zerN 32)) (by rw [hz]; omega)
  have hx : (s ++ tx (zerN 32)).extract 0 32 = fullT s := by
    rw [head_tx]
    unfold fullT
    have : sl (s ++ tx (zerN 32)) = sl s ++ zerN 32 := by
      have h1 : s = tx (sl s) := (tx_sl s).symm
      conv => lhs; rw [h1, ← tx_app]
      exact sl_tx ((sl_bys s).app (Bys.of fun x hx => by rw [List.eq_of_mem_replicate hx]; decide))
    rw [this]
  have i1 : (32 : Int) ≤ ((s ++ tx (zerN 32)).size : Int) := by omega
  generalize tx (zerN 32) = Z at *
  generalize hU : s ++ Z = U at *
  have HX := Lib.hid hx
  clear hz hsz hU
  go_enter Try.func15, Try.ntmps15
  go_wp2_with fail
  refine HB.out.mono ?_
  rintro e w1 ⟨rfl, hb1⟩
  have G1 := Lib.hid hb1
  clear hb1
  go_wp2
  go_ret
  exact ⟨by first | rfl | rw [HX.out], G1.out⟩
end Go.Proofs.Ytccplgicfbfjiaa
