/- The program's disk and journals keep all that the laws of stage 14 ask of them. -/
import Derived.Test.YtbobdbdknapdcaaYKit
import Derived.Test.YtbobdbdknapdcaaY1
import Derived.Test.YtbobdbdknapdcaaY3
import Derived.Test.YtbobdbdknapdcaaZB
import Derived.Test.YtbobdbdknapdcaaZC
namespace Go.Proofs.Ytbobdbdknapdcaa
open Go.RowKit
set_option linter.unusedVariables false

/-- a disk and the journals on it, and the blocks that are theirs -/
def StJ (base : Nat) (w : World) (D : Nat) (d : DiskM) (js : List (Nat × JurM)) (F : Nat → Prop) : Prop :=
  ∃ S M k E V q, DkW w base D S M k E V q d ∧ (∀ i, foot D S M V q i → F i) ∧ (∀ p ∈ js, F p.1 ∧ Blk w p.1 95 (juV D p.2)) ∧ (js.map (·.1)).Nodup ∧ (∀ i, F i → base ≤ i ∧ i < w.heap.size)
variable {base : Nat} {w w' : World} {D : Nat} {d d' : DiskM} {js : List (Nat × JurM)} {F : Nat → Prop}
theorem StJ.keep (h : StJ base w D d js F) (hz : w.heap.size ≤ w'.heap.size) (hs : ∀ i, F i → w'.heap[i]? = w.heap[i]?) : StJ base w' D d js F := by
  obtain ⟨S, M, k, E, V, q, hx, hF, hj, hn, hl⟩ := h
  exact ⟨S, M, k, E, V, q, hx.keep fun i hi => hs i (hF i hi), hF, fun p hp => ⟨(hj p hp).1, (hs _ (hj p hp).1).trans (hj p hp).2⟩, hn, fun i hi => ⟨(hl i hi).1, by have := (hl i hi).2; omega⟩⟩
theorem StJ.below (h : StJ base w D d js F) (hb : Below w.heap.size w w') (hw : base ≤ w.heap.size) : StJ base w' D d js F ∧ Turn base w w' F F := by
  refine ⟨h.keep hb.size fun i hi => ?_, Turn.of_below hb hw⟩
  obtain ⟨S, M, k, E, V, q, hx, hF, hj, hn, hl⟩ := h
  exact hb.block i (hl i hi).2
/-- a call that turns the disk alone -/
theorem StJ.disk {S M k : Nat} {E : DataW Unit} {V : Nat → Value} {q : Option (Nat × Int)} (hx : DkW w base D S M k E V q d) (hcut : d.cut = false) (hF : ∀ i, foot D S M V q i → F i) (hj : ∀ p ∈ js, F p.1 ∧ Blk w p.1 95 (juV D p.2)) (hn : (js.map (·.1)).Nodup) (hl : ∀ i, F i → base ≤ i ∧ i < w.heap.size)
    (hA : DkA base w w' D S M (foot D S M V q) d') : ∃ F', StJ base w' D d' js F' ∧ Turn base w w' F F' := by
  obtain ⟨k', E', V', q', h1, t⟩ := hA
  refine ⟨fun i => F i ∨ foot D S M V' q' i, ⟨S, M, k', E', V', q', h1, fun i hi => .inr hi, fun p hp => ⟨.inl (hj p hp).1, t.blk (hj p hp).2 (hx.notTy hcut (hj p hp).2 (by decide) (by decide))⟩, hn, fun i hi => ?_⟩, t.sub hF fun i hi => hi.elim .inr .inl⟩
  rcases hi with hi | hi
  · exact ⟨(hl i hi).1, by have := (hl i hi).2; have := t.b.size; omega⟩
  · exact h1.lt i hi
/-- a journal's next sector is set -/
theorem StJ.set {J : Nat} {m : JurM} (h : StJ base w D d ((J, m) :: js) F) (hcut : d.cut = false) (n : Nat) : StJ base (w.setCell ⟨J, 3, none⟩ (.int .i64 (n : Int))) D d ((J, { m with nx := n }) :: js) F ∧ Turn base w (w.setCell ⟨J, 3, none⟩ (.int .i64 (n : Int))) F F := by
  obtain ⟨S, M, k, E, V, q, hx, hF, hj, hn, hl⟩ := h
  have hJ := hj (J, m) (by simp)
  have nJ := hx.notTy hcut hJ.2 (by decide) (by decide)
  have hg := grown_setCell w ⟨J, 3, none⟩ (.int .i64 (n : Int))
  have hb := hl J hJ.1
  rw [List.map_cons, List.nodup_cons] at hn
  refine ⟨⟨S, M, k, E, V, q, hx.keep fun i hi => Below.heap_setCell _ _ _ i (fun e => nJ (by have e' : i = J := e; rw [← e']; exact hi)), hF, fun p hp => ?_, by rw [List.map_cons, List.nodup_cons]; exact hn, fun i hi => ⟨(hl i hi).1, by have := (hl i hi).2; have := hg.size; omega⟩⟩, Turn.of_grown hg (by omega) (fun b e => by cases e; exact ⟨hJ.1, hb.1⟩)⟩
  rcases List.mem_cons.1 hp with rfl | hp
  · exact ⟨hJ.1, hJ.2.set 3 (.int .i64 (n : Int))⟩
  · have h2 := hj p (by simp [hp])
    refine ⟨h2.1, h2.2.other (a := ⟨J, 3, none⟩) (fun e => hn.1 ?_) _⟩
    have e' : J = p.1 := e
    show J ∈ _
    rw [e']
    exact List.mem_map.2 ⟨p, hp, rfl⟩
def theJur : JurKit where
  St := StJ
  lt := fun ⟨_, _, _, _, _, _, _, _, _, _, hl⟩ => hl
  keep := fun h hz hs => h.keep hz hs
  swap := fun ⟨S, M, k, E, V, q, hx, hF, hj, hn, hl⟩ => ⟨S, M, k, E, V, q, hx, hF, fun p hp => hj p (by simp only [List.mem_cons] at hp ⊢; rcases hp with h | h | h <;> simp [h]), (List.Perm.swap _ _ _).nodup_iff.1 hn, hl⟩
  drop := fun ⟨S, M, k, E, V, q, hx, hF, hj, hn, hl⟩ => ⟨S, M, k, E, V, q, hx, hF, fun p hp => hj p (by simp [hp]), (List.nodup_cons.1 hn).2, hl⟩
  new_yes := fun n w base h1 h2 hb => (d_New_yes n w base h1 h2 hb).mono fun _ _ ⟨D, F, e, ⟨S, M, k, E, V, q, hx, hF⟩, hB, hF2⟩ => ⟨D, F, e, ⟨S, M, k, E, V, q, hx, fun i hi => by rw [hF]; exact hi, fun p hp => (by cases hp), List.nodup_nil, fun i hi => hx.lt i (by rw [hF] at hi; exact hi)⟩, hB, hF2⟩
  open_ := fun {base w D d js F} ⟨S, M, k, E, V, q, hx, hF, hj, hn, hl⟩ hb hw fr te hlt hto hbig l u hs => (j_Open hx (hb.n.b (by decide)) (cut_on hb.cut) fr te hlt hto hbig l u hs).mono fun x w' ⟨J, p, c, e, hJ, hx', t, hjb, hown⟩ => by
    refine ⟨J, p, c, fun i => F i ∨ i = J, e, ⟨S, M, k, E, V, q, hx', fun i hi => .inl (hF i hi), fun p hp => ?_, ?_, fun i hi => ?_⟩, hown.sl, ⟨t.b, fun i hi hnF => t.out i hi (fun hf => hnF (hF i hf)), fun i hi => hi.elim .inl (fun e => .inr (e ▸ hJ))⟩⟩
    · rcases List.mem_cons.1 hp with rfl | hp
      · exact ⟨.inr rfl, hjb⟩
      · exact ⟨.inl (hj p hp).1, t.blk (hj p hp).2 (hx.notTy hb.cut (hj p hp).2 (by decide) (by decide))⟩
    · rw [List.map_cons, List.nodup_cons]
      refine ⟨fun hm => ?_, hn⟩
      obtain ⟨p, hp, e⟩ := List.mem_map.1 hm
      have := (hj p hp).2.lt
      have e' : p.1 = J := e
      omega
    · rcases hi with hi | rfl
      · exact ⟨(hl i hi).1, by have := (hl i hi).2; have := t.b.size; omega⟩
      · exact ⟨by omega, hjb.lt⟩
  append := fun {base w D J d m js F} ⟨S, M, k, E, V, q, hx, hF, hj, hn, hl⟩ hb hw hm s hs e d' m' he hd hm' => by
    have hJ := (hj (J, m) (by simp)).2
    have hsec := hb.n.sec
    by_cases hroom : secK s.size ≤ m.to - m.nx
    · have he0 : apE m s.size = 0 := by unfold apE; rw [if_pos hroom]
      rw [he0] at he
      subst he
      refine (j_Append_ok hx hJ hb.n (by decide) hb.cut ⟨hm.2.1, hm.2.2⟩ s hs hroom d' hd).mono fun x w' ⟨e, w3, hA, hJ3, e3⟩ => ?_
      obtain ⟨F', h3, t3⟩ := StJ.disk hx hb.cut hF hj hn hl hA
      have hcd : d'.cut = false := by
        rw [← hd, ← apD_put d m s hroom]
        unfold putD
        show (writesD _ _ _).cut = false
        rw [writes_cut, (dkn_apD1 hb.n m s.size hm.2.2).2]
        exact hb.cut
      obtain ⟨h4, t4⟩ := h3.set hcd (m.nx + secK s.size)
      have hm2 : m' = { m with nx := m.nx + secK s.size } := by rw [← hm']; unfold apM; rw [if_pos he0]
      rw [hm2, e3]
      exact ⟨F', e, h4, t3.trans t4⟩
    · have he2 : apE m s.size = 2 := by unfold apE; rw [if_neg hroom]
      rw [he2] at he
      subst he
      have hd2 : d' = d := by rw [← hd]; unfold apD; rw [sl_len, if_neg (by rw [he2]; decide)]
      have hm2 : m' = m := by rw [← hm']; unfold apM; rw [if_neg (by rw [he2]; decide)]
      rw [hd2, hm2]
      refine (j_Append_full (m := m) hJ ⟨hm.2.1, by omega⟩ s hs hroom).mono fun x w' ⟨e, hB⟩ => ?_
      have := StJ.below (js := (J, m) :: js) (F := F) ⟨S, M, k, E, V, q, hx, hF, hj, hn, hl⟩ hB hw
      exact ⟨F, e, this.1, this.2⟩
  room := fun {base w D J d m js F} ⟨S, M, k, E, V, q, hx, hF, hj, hn, hl⟩ hw hm r hr => j_Room J D m w (hj (J, m) (by simp)).2 hm r hr
  clear := fun {base w D d js F} ⟨S, M, k, E, V, q, hx, hF, hj, hn, hl⟩ hb hw fr te hlt hto hbig d' hd => (j_Clear hx hb.n (by decide) hb.cut fr te hlt hto d' hd).mono fun x w' ⟨e, hA⟩ => by
    obtain ⟨F', h3, t3⟩ := StJ.disk hx hb.cut hF hj hn hl hA
    exact ⟨F', e, h3, t3⟩
end Go.Proofs.Ytbobdbdknapdcaa
