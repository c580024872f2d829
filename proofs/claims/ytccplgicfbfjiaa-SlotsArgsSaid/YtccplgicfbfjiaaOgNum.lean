/- Two slots on a disk whose power may go: what is loaded, and what a save leaves (stage 16). -/
import Derived.Test.YtccplgicfbfjiaaOtNum
namespace Go.Proofs.Ytccplgicfbfjiaa
open Go.RowKit
set_option linter.unusedVariables false

/-- slots that may be -/
def mayS (d : DiskM) (fr k : Int) : Prop := 0 ≤ fr ∧ 1 ≤ k ∧ k ≤ 100 ∧ fr + 2 * k ≤ (d.sec.length : Int)
instance (d : DiskM) (fr k : Int) : Decidable (mayS d fr k) := by unfold mayS; exact inferInstance
/-- what Load tells: a text, its number, an error -/
def ldG (d : DiskM) (fr k : Int) : List Nat × Nat × Nat :=
  if ¬ mayS d fr k then ([], 0, 1) else if offD d then ([], 0, 130) else match slLoad d fr.toNat k.toNat with
    | none => ([], 0, 160)
    | some x => (x.2, x.1, 0)
/-- sectors written one by one, then synced, as long as there is power: the error, the disk -/
def svF : DiskM → Nat → List (List Nat) → Nat × DiskM
  | d, _, [] => (syE d, syD d)
  | d, i, s :: l => if offD d then (130, d) else svF (writeD d i s) (i + 1) l
def svG (d : DiskM) (fr k : Int) (s : List Nat) : Nat × DiskM :=
  if ¬ mayS d fr k then (1, d) else if ¬ s.length ≤ slSize k.toNat then (90, d) else if offD d then (130, d)
  else svF d (slAt d fr.toNat k.toNat) (chunksK (secK (8 + s.length)) (padK (slotL (slNext d fr.toNat k.toNat) s)))
theorem svF_cases : ∀ (l : List (List Nat)) (d : DiskM) (i : Nat), svF d i l = (0, syncD (writesD d i l)) ∨ ∃ j, j ≤ l.length ∧ svF d i l = (130, writesD d i (l.take j))
  | [], d, i => by
    unfold svF syE syD
    cases ho : offD d with
    | true => exact .inr ⟨0, Nat.le_refl _, rfl⟩
    | false => exact .inl rfl
  | s :: l, d, i => by
    unfold svF
    cases ho : offD d with
    | true => exact .inr ⟨0, Nat.zero_le _, rfl⟩
    | false =>
      rcases svF_cases l (writeD d i s) (i + 1) with h | ⟨j, hj, h⟩
      · exact .inl h
      · exact .inr ⟨j + 1, Nat.succ_le_succ hj, h⟩
theorem svF_on : ∀ (l : List (List Nat)) (d : DiskM) (i : Nat), d.cut = false → svF d i l = (0, syncD (writesD d i l))
  | [], d, i, h => by
    have ho : offD d = false := by unfold offD; rw [h]; rfl
    unfold svF syE syD
    rw [ho]
    rfl
  | s :: l, d, i, h => by
    have ho : offD d = false := by unfold offD; rw [h]; rfl
    unfold svF
    rw [ho]
    exact svF_on l (writeD d i s) (i + 1) h
theorem off_j {d : DiskM} {q : Nat} (h : DkJ d q) : offD d = false := by unfold offD; rw [h.cut]; rfl
theorem svG_on {d : DiskM} {q fr k : Nat} (h : DkJ d q) (hm : mayS d fr k) (s : List Nat) : svG d fr k s = (svE k s.length, svD d fr k s) := by
  unfold svG svE svD
  rw [if_neg (by simpa using hm), off_j h, Int.toNat_natCast, Int.toNat_natCast]
  by_cases hl : s.length ≤ slSize k
  · rw [if_neg (by simpa using hl), if_pos hl, if_pos hl]
    exact svF_on _ _ _ h.cut
  · rw [if_pos hl, if_neg hl, if_neg hl]
theorem ldG_no {d : DiskM} {fr k : Int} (hm : ¬ mayS d fr k) : ldG d fr k = ([], 0, 1) := by unfold ldG; rw [if_pos hm]
theorem svG_no {d : DiskM} {fr k : Int} (hm : ¬ mayS d fr k) (s : List Nat) : svG d fr k s = (1, d) := by unfold svG; rw [if_pos hm]
theorem ldG_none {d : DiskM} {fr k : Nat} (ho : offD d = false) (hm : mayS d fr k) (hl : slLoad d fr k = none) : ldG d fr k = ([], 0, 160) := by
  unfold ldG
  rw [if_neg (by simpa using hm), ho, Int.toNat_natCast, Int.toNat_natCast, hl]
  rfl
theorem ldG_some {d : DiskM} {fr k n : Nat} {s : List Nat} (ho : offD d = false) (hm : mayS d fr k) (hl : slLoad d fr k = some (n, s)) : ldG d fr k = (s, n, 0) := by
  unfold ldG
  rw [if_neg (by simpa using hm), ho, Int.toNat_natCast, Int.toNat_natCast, hl]
  rfl
/-! ### a save that breaks off (SlotsFirst) -/
theorem big_two : bigL 2 8 = [0, 0, 0, 0, 0, 0, 0, 2] := by decide
set_option maxRecDepth 100000 in
/-- a number 2 that stands in a sector of bytes 0, torn, is 0 or 2 -/
theorem torn_num {x y : List Nat} (hx : x.length = 6) (hy : y.length = 18) (b : Nat) (z : List Nat) :
    fixN ((tornS (zerN 32) [x ++ (bigL 2 8 ++ y)] b ++ z).drop 6) 8 = 0 ∨ fixN ((tornS (zerN 32) [x ++ (bigL 2 8 ++ y)] b ++ z).drop 6) 8 = 2 := by
  have h2 : ∀ r, fixN ((x ++ (bigL 2 8 ++ y) ++ r).drop 6) 8 = 2 := fun r => by
    rw [List.append_assoc, ← hx, List.drop_left, List.append_assoc, fix_put]
  have hz' : ∀ (u v : List Nat), 8 ≤ u.length → fixN (u ++ v) 8 = fixN u 8 := fun u v hu => fix_left u v 8 hu
  by_cases hc : b / 4 % 2 = 1
  · rw [torn_one, if_pos hc]
    exact .inr (h2 z)
  · rw [torn_one, if_neg hc]
    have h4 : b % 4 = 0 ∨ b % 4 = 1 ∨ b % 4 = 2 ∨ b % 4 = 3 := by omega
    have ht : ∀ (m : Nat) (r : List Nat), (x ++ r).take (6 + m) = x ++ r.take m := fun m r => by
      rw [List.take_append, List.take_of_length_le (by omega), hx, Nat.add_sub_cancel_left]
    have hL : ∀ (m : Nat), (bigL 2 8 ++ y).take (8 + m) = bigL 2 8 ++ y.take m := fun m => by
      rw [List.take_append, List.take_of_length_le (by rw [big_len]; omega), big_len, Nat.add_sub_cancel_left]
    have hd : ∀ r : List Nat, (x ++ r).drop 6 = r := fun r => by rw [← hx, List.drop_left]
    rcases h4 with h | h | h | h
    · left
      rw [h, Nat.mul_zero, List.take_zero, List.nil_append, List.drop_zero, List.drop_append_of_le_length (by decide), hz' _ _ (by decide)]
      decide
    · left
      rw [h, show 8 * 1 = 6 + 2 by decide, ht, List.append_assoc, List.append_assoc, hd, big_two]
      show fixN ([0, 0] ++ ((zerN 32).drop 8 ++ z)) 8 = 0
      rw [← List.append_assoc, hz' _ _ (by decide)]
      decide
    · right
      rw [h, show 8 * 2 = 6 + (8 + 2) by decide, ht, hL, List.append_assoc, List.append_assoc, hd, List.append_assoc, fix_put]
    · right
      rw [h, show 8 * 3 = 6 + (8 + 10) by decide, ht, hL, List.append_assoc, List.append_assoc, hd, List.append_assoc, fix_put]
theorem slot_num {a : List Nat} {n : Nat} {s : List Nat} (h : slotF a = some (n, s)) : n = fixN (a.drop 6) 8 := by
  unfold slotF at h
  split at h
  · rename_i hc
    obtain ⟨h0, h8⟩ := hc
    have hf : firstK a = ((firstK a).1, (firstK a).2.1, 0) := by rw [← h0]
    have hi := (first_is hf).2.1
    generalize (firstK a).1 = x at *
    simp only [Option.some.injEq, Prod.mk.injEq] at h
    rw [← h.1]
    have e := List.take_append_drop x.length (a.drop 6)
    rw [← hi] at e
    rw [← e, fix_left x _ 8 h8]
  · cases h
theorem pad_two {s : List Nat} : ∃ x y z, padK (slotL 2 s) = (x ++ (bigL 2 8 ++ y)) ++ z ∧ x.length = 6 ∧ y.length = 18 := by
  have h1 := (frame_parts (slotL 2 s) (zerN (32 * secK (slotL 2 s).length - (6 + (slotL 2 s).length)))).2.2
  have hp := pad_len (slotL 2 s)
  have hpos := secK_pos (slotL 2 s).length
  have e : padK (slotL 2 s) = (padK (slotL 2 s)).take 6 ++ (padK (slotL 2 s)).drop 6 := (List.take_append_drop _ _).symm
  have h2 : (padK (slotL 2 s)).drop 6 = bigL 2 8 ++ (s ++ zerN (32 * secK (slotL 2 s).length - (6 + (slotL 2 s).length))) := by
    unfold padK
    rw [h1]
    unfold slotL
    rw [List.append_assoc]
  have hl : (s ++ zerN (32 * secK (slotL 2 s).length - (6 + (slotL 2 s).length))).length = 32 * secK (slotL 2 s).length - 14 := by
    have := congrArg List.length h2
    rw [List.length_drop, hp, List.length_append, big_len] at this
    omega
  generalize s ++ zerN (32 * secK (slotL 2 s).length - (6 + (slotL 2 s).length)) = r at *
  refine ⟨(padK (slotL 2 s)).take 6, r.take 18, r.drop 18, ?_, by rw [List.length_take]; omega, by rw [List.length_take]; omega⟩
  rw [List.append_assoc, List.append_assoc, List.take_append_drop, ← h2, ← e]
theorem slots_first {d1 : DiskM} {q : Nat} {old new : List Nat} (h1 : SlOk d1 0 10 1 old) (hd : DkJ d1 q) (hlen : d1.sec.length = 20) (h0 : ∀ i, i < 10 → readD d1 i = zerN 32) (hn : Bys new) (hl : new.length ≤ 200) (a : Int) (keep : List Nat) {e : Nat} {d3 : DiskM} (hs : svG (cutD d1 a) (0 : Nat) (10 : Nat) new = (e, d3)) :
    (∀ i, 10 ≤ i → i < 20 → (crashD d3 keep).sec.getD i [] = d1.sec.getD i []) ∧ d3.sec.length = 20 ∧
    (e = 0 ∧ slLoad (crashD d3 keep) 0 10 = some (2, new) ∨ e = 130 ∧ ∃ n s, slLoad (crashD d3 keep) 0 10 = some (n, s) ∧ (n = 1 ∧ s = old ∨ 2 ≤ n)) := by
  have hpen := hd.pen
  have hm : mayS (cutD d1 a) ((0 : Nat) : Int) ((10 : Nat) : Int) := ⟨by decide, by decide, by decide, by show _ ≤ ((d1.sec.length : Nat) : Int); rw [hlen]; decide⟩
  have hc : SlOk (cutD d1 a) 0 10 1 old := sl_same h1 rfl fun i _ _ => rfl
  have hnx := hc.next
  have hsz : new.length ≤ slSize 10 := by unfold slSize; omega
  have hat : slAt (cutD d1 a) 0 10 = 0 := by unfold slAt; rw [hnx]; rfl
  have hsafe : ∀ i, i < 20 → d1.sec.getD i [] = readD d1 i := fun i hi => by unfold readD; rw [hpen]; rfl
  unfold svG at hs
  rw [if_neg (by simpa using hm)] at hs
  simp only [Int.toNat_natCast] at hs
  rw [if_neg (by simpa using hsz)] at hs
  -- power that is gone from the beginning
  have hgone : ∀ (l : List (List Nat)), (∀ i, 10 ≤ i → penD (writesD (cutD d1 a) 0 l).pen i = []) → ((∃ t, l = t :: l.tail ∧ t = (padK (slotL 2 new)).take 32) ∨ l = []) →
      (∀ i, 10 ≤ i → i < 20 → (crashD (writesD (cutD d1 a) 0 l) keep).sec.getD i [] = d1.sec.getD i []) ∧ (writesD (cutD d1 a) 0 l).sec.length = 20 ∧ ∃ n s, slLoad (crashD (writesD (cutD d1 a) 0 l) keep) 0 10 = some (n, s) ∧ (n = 1 ∧ s = old ∨ 2 ≤ n) := by
    intro l hp hl0
    have hsec : (writesD (cutD d1 a) 0 l).sec = d1.sec := by rw [writes_sec]; rfl
    have hrd : ∀ i, 10 ≤ i → i < 20 → readD (crashD (writesD (cutD d1 a) 0 l) keep) i = d1.sec.getD i [] := fun i h1 h2 => by
      rw [crash_still keep (by rw [hsec, hlen]; exact h2) (hp i h1), hsec]
    refine ⟨fun i h1 h2 => ?_, by rw [hsec, hlen], ?_⟩
    · have := hrd i h1 h2
      unfold readD at this
      exact this
    · have hb : areaD (crashD (writesD (cutD d1 a) 0 l) keep) (0 + 10) 10 = areaD d1 (0 + 10) 10 := area_same fun i hi => by
        rw [hrd _ (by omega) (by omega), hsafe _ (by omega)]
      have ha0 : slotF (areaD d1 0 10) = none := zero_slot fun i hi => by rw [Nat.zero_add]; exact h0 i hi
      have hb0 : slotF (areaD d1 (0 + 10) 10) = some (1, old) := by
        have := h1.load
        rw [if_neg (by decide)] at this
        unfold slLoad loadL at this
        rw [ha0] at this
        cases hx : slotF (areaD d1 (0 + 10) 10) with
        | none => rw [hx] at this; cases this
        | some y => rw [hx] at this; simpa using this
      have hnum : ∀ n s, slotF (areaD (crashD (writesD (cutD d1 a) 0 l) keep) 0 10) = some (n, s) → n = 0 ∨ n = 2 := fun n s h => by
        rw [slot_num h]
        have e : areaD (crashD (writesD (cutD d1 a) 0 l) keep) 0 10 = readD (crashD (writesD (cutD d1 a) 0 l) keep) 0 ++ areaD (crashD (writesD (cutD d1 a) 0 l) keep) 1 9 := by
          rw [show (10 : Nat) = 1 + 9 by decide, area_split]
          congr 1
          unfold areaD
          simp [List.range_succ]
        rw [e]
        have hs0 : d1.sec.getD 0 [] = zerN 32 := by rw [hsafe 0 (by decide)]; exact h0 0 (by decide)
        have hcr : readD (crashD (writesD (cutD d1 a) 0 l) keep) 0 = crashS (writesD (cutD d1 a) 0 l) keep 0 := crash_read keep (by rw [hsec, hlen]; decide)
        rw [hcr]
        have hpd : penD (cutD d1 a).pen 0 = [] := by show penD d1.pen 0 = []; rw [hpen]; rfl
        unfold crashS
        rw [hsec, hs0]
        rcases hl0 with ⟨t, hl1, ht⟩ | hl1
        · have hp0 : penD (writesD (cutD d1 a) 0 l).pen 0 = [t] := by
            rw [writes_pen, hpd, List.nil_append, hl1, if_pos ⟨Nat.le_refl _, by simp⟩]
            rfl
          rw [hp0, if_neg (by simp)]
          obtain ⟨x, y, z, hp2, hx, hy⟩ := pad_two (s := new)
          have ht2 : t = x ++ (bigL 2 8 ++ y) := by
            rw [ht, hp2]
            have hlx : (x ++ (bigL 2 8 ++ y)).length = 32 := by rw [List.length_append, List.length_append, big_len]; omega
            rw [← hlx, List.take_left]
          rw [ht2]
          exact torn_num hx hy _ _
        · have hp0 : penD (writesD (cutD d1 a) 0 l).pen 0 = [] := by
            rw [writes_pen, hpd, List.nil_append, hl1, if_neg (by simp)]
          rw [if_pos hp0]
          left
          have := fix_left ((zerN 32).drop 6) (areaD (crashD (writesD (cutD d1 a) 0 l) keep) 1 9) 8 (by decide)
          rw [List.drop_append_of_le_length (by decide), this]
          decide
      unfold slLoad loadL
      rw [hb, hb0]
      cases hx : slotF (areaD (crashD (writesD (cutD d1 a) 0 l) keep) 0 10) with
      | none => exact ⟨1, old, rfl, .inl ⟨rfl, rfl⟩⟩
      | some y =>
        obtain ⟨n, s⟩ := y
        rcases hnum n s hx with rfl | rfl
        · exact ⟨1, old, rfl, .inl ⟨rfl, rfl⟩⟩
        · exact ⟨2, s, rfl, .inr (Nat.le_refl _)⟩
  have hsl := slotL_len 2 new
  have hm7 : secK (8 + new.length) ≤ 7 := by unfold secK; omega
  have hnil : ∀ i, penD (cutD d1 a).pen i = [] := fun i => by show penD d1.pen i = []; rw [hpen]; rfl
  by_cases ho : offD (cutD d1 a) = true
  · rw [if_pos ho] at hs
    obtain ⟨rfl, rfl⟩ := Prod.mk.inj hs
    obtain ⟨g1, g2, g3⟩ := hgone [] (fun i _ => hnil i) (.inr rfl)
    exact ⟨g1, g2, .inr ⟨rfl, g3⟩⟩
  · rw [if_neg ho, hat, hnx] at hs
    have hll := chunks_len (secK (8 + new.length)) (padK (slotL 2 new))
    obtain ⟨m, hm⟩ : ∃ m, secK (8 + new.length) = m + 1 := ⟨secK (8 + new.length) - 1, by have := secK_pos (8 + new.length); omega⟩
    rcases svF_cases (chunksK (secK (8 + new.length)) (padK (slotL 2 new))) (cutD d1 a) 0 with h | ⟨j, hj, h⟩
    · rw [h] at hs
      obtain ⟨rfl, rfl⟩ := Prod.mk.inj hs
      have e : syncD (writesD (cutD d1 a) 0 (chunksK (secK (8 + new.length)) (padK (slotL 2 new)))) = svD (cutD d1 a) 0 10 new := by
        unfold svD
        rw [if_pos hsz, hat, hnx]
      rw [e]
      have hok := sl_save hc (by decide) (by decide) hn hsz
      have hok2 := sl_crash hok (by unfold svD; rw [if_pos hsz]; rfl) keep
      have hl2 : (svD (cutD d1 a) 0 10 new).sec.length = 20 := by rw [sv_len]; exact hlen
      refine ⟨fun i h1 h2 => ?_, hl2, .inl ⟨rfl, ?_⟩⟩
      · have hpe : (svD (cutD d1 a) 0 10 new).pen = [] := by unfold svD; rw [if_pos hsz]; rfl
        have := crash_readJ hpe keep (i := i) (by rw [hl2]; exact h2)
        rw [sv_read (cutD d1 a) (by decide) new (by show i < d1.sec.length; omega) (by rw [hat]; omega)] at this
        have e2 : readD (crashD (svD (cutD d1 a) 0 10 new) keep) i = (crashD (svD (cutD d1 a) 0 10 new) keep).sec.getD i [] := rfl
        rw [← e2, this, hsafe i h2]
        rfl
      · have := hok2.load
        rw [if_neg (by decide)] at this
        exact this
    · rw [h] at hs
      obtain ⟨rfl, rfl⟩ := Prod.mk.inj hs
      obtain ⟨g1, g2, g3⟩ := hgone ((chunksK (secK (8 + new.length)) (padK (slotL 2 new))).take j) (fun i hi => by
        rw [writes_pen, hnil, List.nil_append, if_neg (by rw [List.length_take]; omega)]) (by
        cases j with
        | zero => exact .inr rfl
        | succ j =>
          refine .inl ⟨(padK (slotL 2 new)).take 32, ?_, rfl⟩
          rw [hm]
          rfl)
      exact ⟨g1, g2, .inr ⟨rfl, g3⟩⟩
theorem dkn_svF : ∀ (l : List (List Nat)) {d : DiskM} {q i : Nat}, DkN d q → i + l.length ≤ d.sec.length → (∀ s ∈ l, s.length = 32 ∧ Bys s) → DkN (svF d i l).2 (q + l.length + 1)
  | [], d, q, i, h, _, _ => dkn_sync h
  | s :: l, d, q, i, h, hi, hl => by
    rw [List.length_cons] at hi ⊢
    unfold svF
    split
    · exact h.more (by omega)
    · have h1 := dkn_write1 h (i := i) (by omega) (hl s (by simp)).1 (hl s (by simp)).2
      have := dkn_svF l (i := i + 1) h1 (by rw [safe_write]; omega) fun t ht => hl t (by simp [ht])
      rw [show q + (l.length + 1) + 1 = q + 1 + l.length + 1 by omega]
      exact this
theorem dkn_svG {d : DiskM} {q fr k : Nat} (h : DkN d q) {s : List Nat} (hs : Bys s) {e : Nat} {d' : DiskM} (hg : svG d (fr : Int) (k : Int) s = (e, d')) : DkN d' (q + 36) := by
  unfold svG at hg
  split at hg
  · obtain ⟨rfl, rfl⟩ := Prod.mk.inj hg
    exact h.more (by omega)
  · rename_i hm
    split at hg
    · obtain ⟨rfl, rfl⟩ := Prod.mk.inj hg
      exact h.more (by omega)
    · rename_i hl
      split at hg
      · obtain ⟨rfl, rfl⟩ := Prod.mk.inj hg
        exact h.more (by omega)
      · have hm' : mayS d fr k := Classical.not_not.1 hm
        have hl' : s.length ≤ slSize ((k : Nat) : Int).toNat := Classical.not_not.1 hl
        rw [Int.toNat_natCast] at hl'
        obtain ⟨m1, m2, m3, m4⟩ := hm'
        obtain ⟨h1, h2⟩ := size_le hl' (by omega)
        have h3 := at_le d ((fr : Nat) : Int).toNat ((k : Nat) : Int).toNat
        rw [Int.toNat_natCast, Int.toNat_natCast] at h3 hg
        have hsl := slotL_len (slNext d fr k) s
        have := dkn_svF (chunksK (secK (8 + s.length)) (padK (slotL (slNext d fr k) s))) (i := slAt d fr k) h (by rw [chunks_len]; omega) fun t ht => ⟨chunks_each _ _ (by rw [pad_len, hsl]) t ht, chunks_bys _ (pad_bys (slotL_bys _ hs)) t ht⟩
        rw [chunks_len, hg] at this
        have h33 := sec_le (n := 8 + s.length) (by omega)
        exact this.more (by omega)
theorem slot_bys {a : List Nat} (ha : Bys a) {n : Nat} {s : List Nat} (h : slotF a = some (n, s)) : Bys s := by
  unfold slotF at h
  split at h
  · rename_i hc
    have hf : firstK a = ((firstK a).1, (firstK a).2.1, 0) := by rw [← hc.1]
    have hi := (first_is hf).2.1
    simp only [Option.some.injEq, Prod.mk.injEq] at h
    rw [← h.2, hi]
    exact ((ha.drop _).take _).drop _
  · cases h
theorem area_bysO {d : DiskM} (hb : (∀ s ∈ d.sec, Bys s) ∧ ∀ p ∈ d.pen, Bys p.2) (a n : Nat) : Bys (areaD d a n) := by
  unfold areaD
  refine Bys.of fun x hx => ?_
  obtain ⟨i, _, h⟩ := List.mem_flatMap.1 hx
  exact Bys.mem (read_bys hb (a + i)) h
theorem load_bys {d : DiskM} (hb : (∀ s ∈ d.sec, Bys s) ∧ ∀ p ∈ d.pen, Bys p.2) {fr k n : Nat} {s : List Nat} (h : slLoad d fr k = some (n, s)) : Bys s := by
  unfold slLoad loadL at h
  cases ha : slotF (areaD d fr k) with
  | none =>
    cases hc : slotF (areaD d (fr + k) k) with
    | none => rw [ha, hc] at h; cases h
    | some y =>
      rw [ha, hc] at h
      simp only [Option.some.injEq] at h
      exact slot_bys (area_bysO hb _ _) (h ▸ hc)
  | some x =>
    cases hc : slotF (areaD d (fr + k) k) with
    | none =>
      rw [ha, hc] at h
      simp only [Option.some.injEq] at h
      exact slot_bys (area_bysO hb _ _) (h ▸ ha)
    | some y =>
      rw [ha, hc] at h
      simp only at h
      split at h
      · simp only [Option.some.injEq] at h
        exact slot_bys (area_bysO hb _ _) (h ▸ hc)
      · simp only [Option.some.injEq] at h
        exact slot_bys (area_bysO hb _ _) (h ▸ ha)
end Go.Proofs.Ytccplgicfbfjiaa
