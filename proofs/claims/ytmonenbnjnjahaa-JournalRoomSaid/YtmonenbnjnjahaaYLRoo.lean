/-
  For every list of sizes and every room: what has room is appended and takes whole sectors; what has none is refused, and changes nothing; the sectors beside the area stay. No condition.
-/
import Derived.Test.YtmonenbnjnjahaaRows
import Derived.Test.YtmonenbnjnjahaaYShw
import Derived.Test.YtmonenbnjnjahaaYThe
import Derived.ShutString
import Derived.ChangeOld
namespace Go.Proofs.Ytmonenbnjnjahaa.journalRoom
open Go.ChangeShapes Go.WideShapes Go.ChangeAt Go.RowKit
open Go.ChangeMaps (open_string shut_string)
set_option linter.unusedVariables false

theorem rowsU_flat (l : List Nat) : (rowsU .u8 l).flatten = ints .u8 (nn l) := by
  induction l with
  | nil => rfl
  | cons x l ih =>
    show _ :: (rowsU .u8 l).flatten = _
    rw [ih]; rfl
theorem own_u8 {w : World} {B : Nat} {e : TypeId} {v : Value} {b : List Nat} (h : OwnR w B e 1 v (rowsU .u8 b)) : OwnB w B e v (nn b) := by
  have := h.2
  rw [rowsU_flat, rowsU_len] at this
  unfold OwnB
  rw [nn_length]
  exact this
theorem rows_rep (c j : Nat) : rowsU .u8 (List.replicate (j + 1) c) = rowsU .u8 (List.replicate j c) ++ [[.int .u8 (c : Int)]] := by
  rw [List.replicate_succ']
  simp [rowsU]
theorem rep_bys {c : Nat} (hc : c < 256) (n : Nat) : Bys (List.replicate n c) := Bys.of fun x hx => by rw [(List.mem_replicate.1 hx).2]; exact hc
/-- what stays true: T: the area's end; r: the room; c: how many frames -/
structure InvR (T j r c : Nat) (d : DiskM) (m : JurM) (l : List (List Nat)) : Prop where
  cj : c ≤ j
  dk : DkJ d (36 * j)
  ok : JurOk d m l
  fr : m.fr = 3
  tq : m.to = T
  r : m.nx + r = T
  c : l.length = c
  len : d.sec.length = 50
  z2 : readD d 2 = zerN 32
  zT : readD d T = zerN 32
  T : 3 < T ∧ T ≤ 43
theorem inv_yes {T j r c : Nat} {d : DiskM} {m : JurM} {l : List (List Nat)} (h : InvR T j r c d m l) {s : List Nat} (hs : Bys s) (hl : s.length ≤ 255) (hr : secK s.length ≤ r) : apE m s.length = 0 ∧ InvR T (j + 1) (r - secK s.length) (c + 1) (apD d m s) (apM m s.length) (l ++ [s]) := by
  have h1 := h.tq
  have h2 := h.r
  have h3 := h.ok.nx
  have h4 := h.fr
  have h5 := h.ok.le
  have hT := h.T
  have hlen := h.len
  have he : apE m s.length = 0 := by unfold apE; rw [if_pos (by omega)]
  have hM : apM m s.length = ⟨m.fr, m.to, m.nx + secK s.length⟩ := by unfold apM; rw [if_pos he]
  refine ⟨he, (by have := h.cj; omega), (dkj_append h.dk h.ok hs (by omega)).more (by omega), jur_append h.ok he hs (by omega), by rw [hM]; exact h4, by rw [hM]; exact h1, by rw [hM]; show m.nx + _ + _ = T; omega, by rw [List.length_append, h.c]; rfl, by rw [ap_len]; exact hlen, ?_, ?_, hT⟩
  · rw [ap_read d m s (by omega) (by omega) h5]; exact h.z2
  · rw [ap_read d m s (by omega) (by omega) h5]; exact h.zT
theorem inv_no {T j r c : Nat} {d : DiskM} {m : JurM} {l : List (List Nat)} (h : InvR T j r c d m l) {s : List Nat} (hr : ¬ secK s.length ≤ r) : apE m s.length = 2 ∧ apD d m s = d ∧ apM m s.length = m ∧ InvR T (j + 1) r c d m l := by
  have h1 := h.tq
  have h2 := h.r
  have he : apE m s.length = 2 := by unfold apE; rw [if_neg (by omega)]
  obtain ⟨e1, e2⟩ := ap_full (d := d) (m := m) (s := s) (by rw [he]; decide)
  exact ⟨he, e1, e2, (by have := h.cj; omega), h.dk.more (by omega), h.ok, h.fr, h1, h2, h.c, h.len, h.z2, h.zT, h.T⟩
theorem inv_new {T k : Nat} (hT : T = 3 + k) (hk : 1 ≤ k ∧ k ≤ 40) : InvR T 0 k 0 (newD 50) ⟨3, T, 3⟩ [] :=
  ⟨Nat.le_refl _, dkj_new (by decide), jur_new (by omega) (by omega), rfl, rfl, by show 3 + k = T; omega, rfl, by simp [newD], read_new (by decide), read_new (by omega), by omega⟩
theorem full_nil : sl (fullT ⟨#[]⟩) = zerN 32 := by
  rw [full_sl]
  rfl
set_option maxHeartbeats 4000000 in
set_option maxRecDepth 100000 in
theorem walkK (K : JurKit) (l : List Nat) (y : Int) (p : Option Addr) (cap : Nat) (hy : (Lit.int .u8 y).wf = true) (hl8 : ∀ x ∈ l, x < 256) (w : World) (hS : Sl w 1 (.slice p l.length cap) (rowsU .u8 l)) :
    Calls Try.prog 4 #[.slice p l.length cap, .int .u8 y] w fun e w' => e = .returned (.bool true) ∧ Below w.heap.size w w' := by
  have HSh := Lib.hid (fun w => l14_shown K w)
  have HS := Lib.hid hS
  have HL8 := Lib.hid hl8
  clear hl8 hS
  obtain ⟨nb, rfl, hnb⟩ := nat_u8 y hy
  clear hy
  by_cases h1 : 30 < l.length
  · have g1 : (30 : Int) < (l.length : Int) := by omega
    clear h1
    go_enter Try.func4, Try.ntmps4
    go_wp2_with (go_at_call 6; (with_reducible refine (HSh.out _).mono ?_); rintro e w1 ⟨rfl, hb1⟩)
    go_ret
    exact ⟨rfl, hb1⟩
  have g1 : ¬ (30 : Int) < (l.length : Int) := by omega
  obtain ⟨i0, hi0, hz0, hz1, hz2⟩ := info_parts2 info_u8
  obtain ⟨q, hq1, hq2⟩ : ∃ q : Nat, nb % 40 = q ∧ q < 40 := ⟨_, rfl, Nat.mod_lt _ (by decide)⟩
  have e1 : (nb : Int) % 40 = (q : Int) := by omega
  have e1t : (nb : Int).tmod 40 = (q : Int) := by rw [Int.tmod_eq_emod_of_nonneg (by omega)]; exact e1
  have e0 : IntKind.i64.wrap (nb : Int) = (nb : Int) := IntWalk.i64_in _ (by omega)
  obtain ⟨k, hk⟩ : ∃ k : Nat, 1 + q = k := ⟨_, rfl⟩
  obtain ⟨T, hT⟩ : ∃ T : Nat, T = 3 + k := ⟨_, rfl⟩
  have e2 : (1 : Int) + (q : Int) = (k : Int) := by omega
  have e3 : (3 : Int) + (k : Int) = (T : Int) := by omega
  have I0 := inv_new hT (by omega)
  have HI0 := Lib.hid I0
  have o0 := jur_open I0.ok
  have HN := Lib.hid (fun (wx : World) (h : w.heap.size ≤ wx.heap.size) => K.new_yes 50 wx w.heap.size (by decide) (by decide) h)
  have HO := Lib.hid (fun (wx : World) (D : Nat) (F : Nat → Prop) (h : K.St w.heap.size wx D (newD 50) [] F) (hw : w.heap.size ≤ wx.heap.size) => K.open_ h (I0.dk.more (by omega)) hw 3 T I0.ok.lt (by rw [I0.len]; omega) (by omega) [] 0 o0)
  have kT : 3 ≤ T ∧ T ≤ 43 := by omega
  have HTK := Lib.hid (show T = 3 + k from hT)
  obtain ⟨n, hn⟩ : ∃ n, l.length = n := ⟨_, rfl⟩
  have HNL := Lib.hid hn
  have L30 : n ≤ 30 := by omega
  rw [hn] at HS g1 ⊢
  clear I0 o0 hq1 hk hT h1 hn
  go_enter Try.func4, Try.ntmps4
  go_wp2_with fail
  (with_reducible refine (HSh.out _).mono ?_)
  rintro e v1 ⟨rfl, c1⟩
  have B1 := Lib.hid c1
  clear c1
  go_wp2_with fail
  refine (HN.out v1 B1.out.size).mono ?_
  rintro e v2 ⟨D, F2, rfl, r2, c2, _⟩
  have R2 := Lib.hid r2
  have B2 := Lib.hid (B1.out.trans (c2.mono B1.out.size))
  clear r2 c2 HN
  unfold ptD
  go_wp2_with fail
  refine (HO.out v2 D F2 R2.out B2.out.size).mono ?_
  rintro e v3 ⟨J, p3, c3, F3, rfl, r3, _, t3⟩
  have R3 := Lib.hid r3
  have B3 := Lib.hid (B2.out.trans t3.b)
  clear r3 t3 HO
  unfold ptD
  go_wp2_with fail
  go_loopw [10, 11, 12, 13, 14, 15] (fun left cnt i _ _ _ wr => ∃ (j r c : Nat) (d : DiskM) (m : JurM) (fs : List (List Nat)) (F : Nat → Prop), left = .int .i64 (r : Int) ∧ cnt = .int .i64 (c : Int) ∧ i = .int .i64 (j : Int) ∧ j ≤ n ∧ InvR T j r c d m fs ∧ K.St w.heap.size wr D d [(J, m)] F ∧ Below w.heap.size w wr) (fun _ _ i _ _ _ _ => n - (intOf i).toNat)
  case atStart => exact ⟨0, k, 0, newD 50, ⟨3, T, 3⟩, [], F3, rfl, rfl, rfl, by omega, HI0.out, R3.out, B3.out⟩
  case round =>
    obtain ⟨j, r, c, d, m, fs, F, rfl, rfl, rfl, hj, hi, hr, gb⟩ := hrel
    obtain ⟨wo, rfl⟩ : ∃ wo, wo = wr := ⟨_, rfl⟩
    have HI := Lib.hid hi
    have RJ := Lib.hid hr
    have GB := Lib.hid gb
    clear hi hr gb HI0 R3 B3
    by_cases hlt : j < n
    · have d1 : (j : Int) < (n : Int) := by omega
      obtain ⟨ad, rfl, c1⟩ := SlU.cell (HS.out.below GB.out) (by rw [HNL.out]; exact hlt)
      have CELL0 := Lib.hid (fun wx (h : Below w.heap.size w wx) => SlU.cell (HS.out.below h) (j := j) (by rw [HNL.out]; exact hlt))
      have hs8 : l.getD j 0 < 256 := by
        have hj' : j < l.length := by rw [HNL.out]; exact hlt
        rw [List.getD_eq_getElem?_getD, List.getElem?_eq_getElem hj']
        exact HL8.out _ (List.getElem_mem _)
      obtain ⟨sz, hsz⟩ : ∃ sz, l.getD j 0 = sz := ⟨_, rfl⟩
      rw [hsz] at c1 CELL0 hs8
      have CELL : Hid (∀ wx, Below w.heap.size w wx → wx.cell? (ad.add j) = some (.int .u8 (sz : Int))) := Lib.hid fun wx h => by
        obtain ⟨a', e, q0⟩ := CELL0.out wx h
        cases e
        exact q0
      have e4 : IntKind.i64.wrap (sz : Int) = (sz : Int) := IntWalk.i64_in _ (by omega)
      have e5 : IntKind.u8.wrap (j : Int) = (j : Int) := by rw [IntKind.wrap_u8]; omega
      have k0 := OwnR.empty wo wo.heap.size 5 1 (Nat.le_refl _)
      have kb := (Below.refl wo.heap.size wo).alloc (Nat.le_refl _) (.cells #[] 5)
      have K0 := Lib.hid k0
      have KB := Lib.hid kb
      clear k0 kb CELL0 hsz c1
      go_wp2_with fail
      go_loopw [13] (fun bv wx => ∃ (q' : Nat) (pb : Option Addr) (cb : Nat), bv = .slice pb q' cb ∧ q' ≤ sz ∧ OwnR wx wo.heap.size 5 1 (.slice pb q' cb) (rowsU .u8 (List.replicate q' j)) ∧ Below wo.heap.size wo wx) (fun bv _ => sz - (match bv with | .slice _ q' _ => q' | _ => 0))
      case atStart => exact ⟨0, _, _, rfl, by omega, K0.out, KB.out⟩
      case round =>
        obtain ⟨q', pb, cb, rfl, hq', gO, gb⟩ := hrel
        clear K0 KB
        obtain ⟨wx, rfl⟩ : ∃ wx, wx = wr := ⟨_, rfl⟩
        have c1 := CELL.out wx (GB.out.trans (gb.mono GB.out.size))
        by_cases hlq : q' < sz
        · have d2 : (q' : Int) < (sz : Int) := by omega
          have hb6 := (Below.refl wx.heap.size wx).alloc (Nat.le_refl _) (.cells #[.int .u8 (j : Int)] 5)
          have HNW := Lib.hid (sl_one (Blk.new' wx 5 (c := #[.int .u8 (j : Int)]) [.int .u8 (j : Int)] rfl))
          have HO := Lib.hid (gO.keep hb6)
          have HLO := Lib.hid gO.lt
          have HB6 := Lib.hid (gb.trans (hb6.mono gb.size))
          have HONE := Lib.hid (show ∀ r ∈ [[Value.int .u8 (j : Int)]], ∀ u ∈ r, u.oneCell' = true by simp [Value.oneCell'])
          have HLEN := Lib.hid (show (rowsU .u8 (List.replicate q' j)).length + [[Value.int .u8 (j : Int)]].length ≤ maxLen by rw [rowsU_len, List.length_replicate, List.length_singleton]; unfold maxLen; omega)
          have HBY := Lib.hid (show ((rowsU .u8 (List.replicate q' j)).length + [[Value.int .u8 (j : Int)]].length) * 1 ≤ 140737488355328 by rw [rowsU_len, List.length_replicate, List.length_singleton]; omega)
          have HBA := Lib.hid HB6.out.size
          have HRR := Lib.hid (rows_rep j q')
          clear gO gb hb6
          go_wp2_with (first | (refine wpList_append_rows rfl _ _ 24 rfl wo.heap.size 5 i0 (.int .u8 0) 1 1 Try.underlying24 hi0 hz0 hz1 hz2 rfl (by decide) _ (rowsU .u8 (List.replicate q' j)) rfl HO.out (.slice (some ⟨wx.heap.size, 0, none⟩) 1 1) [[.int .u8 (j : Int)]] rfl HNW.out HONE.out HLEN.out HBY.out HBA.out (.inr ⟨_, _, _, rfl⟩) ?_; intro v7 w7 ho7 hg7 hv7; rw [← HRR.out] at ho7; obtain ⟨p7, q7, rfl⟩ := ho7.isSlice; rw [rowsU_len, List.length_replicate] at ho7; rw [rowsU_len, List.length_replicate]))
          go_roundw
          case rel => exact ⟨q' + 1, p7, q7, rfl, by omega, ho7, HB6.out.grown hg7 HBA.out (fun k e => (HLO.out k e).1)⟩
          case measure => (simp; try omega)
        · obtain rfl : q' = sz := by omega
          have d2 : ¬ (q' : Int) < (q' : Int) := by omega
          obtain ⟨sz, hszz⟩ : ∃ sz, sz = q' := ⟨_, rfl⟩
          subst hszz
          obtain ⟨nd, hnd⟩ : ∃ nd, secK sz = nd := ⟨_, rfl⟩
          have hw1 := HI.out.tq
          have hw2 := HI.out.r
          have hw3 := HI.out.fr
          have hw4 := HI.out.ok.nx
          have e9 : ((sz : Int) + 6 + 31) / 32 = (nd : Int) := by unfold secK at hnd; omega
          have e9t : ((sz : Int) + 6 + 31).tdiv 32 = (nd : Int) := by rw [Int.tdiv_eq_ediv_of_nonneg (by omega)]; exact e9
          have hn32 : nd ≤ 10 := by unfold secK at hnd; omega
          obtain ⟨L, hL⟩ : ∃ L, List.replicate sz j = L := ⟨_, rfl⟩
          have hLl : L.length = sz := by rw [← hL, List.length_replicate]
          have hLb : Bys L := by rw [← hL]; exact rep_bys (by omega) _
          have hbt : bs (nn L) = tx L := rfl
          have hst : sl (tx L) = L := sl_tx hLb
          have htt : (tx L).size = sz := by rw [tx_size, hLl]
          rw [hL] at gO
          obtain ⟨tt, ht⟩ : ∃ tt, tx L = tt := ⟨_, rfl⟩
          rw [ht] at hbt hst htt
          have HOW := Lib.hid (own_u8 gO)
          have RX := Lib.hid (K.below RJ.out gb)
          have BX := Lib.hid gb
          clear hL ht
          by_cases hrm : nd ≤ r
          · skip
            have hp := inv_yes HI.out (s := L) hLb (by omega) (by rw [hLl, hnd]; exact hrm)
            obtain ⟨he, hi'⟩ := hp
            rw [hLl] at he
            have HA := Lib.hid (K.append RX.out (HI.out.dk.more (by omega)) (Nat.le_trans GB.out.size BX.out.size) ⟨by omega, by omega, by rw [HI.out.len]; omega⟩ tt (by omega) 0 (apD d m L) (apM m L.length) (by rw [htt]; exact he) (by rw [hst]) (by rw [htt, hLl]))
            rw [hLl, hnd] at hi'
            rw [hLl] at HA
            generalize apD d m L = d' at *
            generalize apM m sz = m' at *
            generalize fs ++ [L] = fs' at *
            obtain ⟨r', hr'⟩ : ∃ r' : Nat, r - nd = r' := ⟨_, rfl⟩
            rw [hr'] at hi'
            have e6 : (r : Int) - (nd : Int) = (r' : Int) := by omega
            have d6 : (nd : Int) ≤ (r : Int) := by omega
            have c30 : c ≤ 30 := by have := HI.out.cj; omega
            have hm1 := hi'.tq
            have hm2 := hi'.r
            have hm3 := hi'.fr
            have hT' := HTK.out
            have hnx := hi'.ok.nx
            have HRm := Lib.hid (fun (wx : World) (F : Nat → Prop) (h : K.St w.heap.size wx D d' [(J, m')] F) (hw : w.heap.size ≤ wx.heap.size) => K.room h hw ⟨by omega, by omega, by omega⟩ r' (by omega))
            obtain ⟨u, hu⟩ : ∃ u : Nat, m'.nx - m'.fr = u := ⟨_, rfl⟩
            have HUs := Lib.hid (fun (wx : World) (F : Nat → Prop) (h : K.St w.heap.size wx D d' [(J, m')] F) (hw : w.heap.size ≤ wx.heap.size) => K.used h hw ⟨by omega, by omega, by omega⟩ u hu)
            have e7 : (k : Int) - (r' : Int) = (u : Int) := by omega
            have HI' := Lib.hid hi'
            have HX := Lib.hid (show w.heap.size ≤ wx.heap.size from Nat.le_trans GB.out.size BX.out.size)
            clear hi' he hm1 hm2 hm3 hT' hnx hu hst hnd hrm hLb hLl htt hq' gO gb hw1 hw2 hw3 hw4 hr'
            generalize hnl : nn L = ln at *
            have HTL := Lib.hid hbt
            clear hnl hbt
            go_wp2_with (refine wpList_string_own rfl 24 9 5 _ rfl wo.heap.size _ ln rfl Try.underlying24 Try.underlying5 Try.underlying9 HOW.out ?_; rw [HTL.out])
            refine HA.out.mono ?_
            rintro e v4 ⟨F4, rfl, r4, t4⟩
            have R4 := Lib.hid r4
            have B4 := Lib.hid ((GB.out.trans (BX.out.mono GB.out.size)).trans t4.b)
            clear r4 t4
            go_wp2_with fail
            refine (HRm.out v4 F4 R4.out B4.out.size).mono ?_
            rintro e v5 ⟨rfl, c5⟩
            have R5 := Lib.hid (K.below R4.out c5)
            have B5 := Lib.hid (B4.out.trans (c5.mono B4.out.size))
            clear c5
            go_wp2_with fail
            refine (HUs.out v5 F4 R5.out B5.out.size).mono ?_
            rintro e v6 ⟨rfl, c6⟩
            have R6 := Lib.hid (K.below R5.out c6)
            have B6 := Lib.hid (B5.out.trans (c6.mono B5.out.size))
            clear c6
            go_wp2
            go_roundw
            case rel => exact ⟨j + 1, r', c + 1, d', m', fs', F4, rfl, by go_num, by go_num, by omega, HI'.out, R6.out, B6.out⟩
            case measure => simp [intOf]; omega
          · skip
            have hp := inv_no HI.out (s := L) (by rw [hLl, hnd]; exact hrm)
            obtain ⟨he, hd', hm', hi'⟩ := hp
            rw [hLl] at he hm'
            have HA := Lib.hid (K.append RX.out (HI.out.dk.more (by omega)) (Nat.le_trans GB.out.size BX.out.size) ⟨by omega, by omega, by rw [HI.out.len]; omega⟩ tt (by omega) 2 d m (by rw [htt]; exact he) (by rw [hst]; exact hd') (by rw [htt]; exact hm'))
            clear hd' hm'
            have d6 : ¬ (nd : Int) ≤ (r : Int) := by omega
            have hm1 := hi'.tq
            have hm2 := hi'.r
            have hm3 := hi'.fr
            have hT' := HTK.out
            have hnx := hi'.ok.nx
            have HRm := Lib.hid (fun (wx : World) (F : Nat → Prop) (h : K.St w.heap.size wx D d [(J, m)] F) (hw : w.heap.size ≤ wx.heap.size) => K.room h hw ⟨by omega, by omega, by omega⟩ r (by omega))
            obtain ⟨u, hu⟩ : ∃ u : Nat, m.nx - m.fr = u := ⟨_, rfl⟩
            have HUs := Lib.hid (fun (wx : World) (F : Nat → Prop) (h : K.St w.heap.size wx D d [(J, m)] F) (hw : w.heap.size ≤ wx.heap.size) => K.used h hw ⟨by omega, by omega, by omega⟩ u hu)
            have e7 : (k : Int) - (r : Int) = (u : Int) := by omega
            have HI' := Lib.hid hi'
            have HX := Lib.hid (show w.heap.size ≤ wx.heap.size from Nat.le_trans GB.out.size BX.out.size)
            clear hi' he hm1 hm2 hm3 hT' hnx hu hst hnd hrm hLb hLl htt hq' gO gb hw1 hw2 hw3 hw4 
            generalize hnl : nn L = ln at *
            have HTL := Lib.hid hbt
            clear hnl hbt
            go_wp2_with (refine wpList_string_own rfl 24 9 5 _ rfl wo.heap.size _ ln rfl Try.underlying24 Try.underlying5 Try.underlying9 HOW.out ?_; rw [HTL.out])
            refine HA.out.mono ?_
            rintro e v4 ⟨F4, rfl, r4, t4⟩
            have R4 := Lib.hid r4
            have B4 := Lib.hid ((GB.out.trans (BX.out.mono GB.out.size)).trans t4.b)
            clear r4 t4
            go_wp2_with fail
            refine (HRm.out v4 F4 R4.out B4.out.size).mono ?_
            rintro e v5 ⟨rfl, c5⟩
            have R5 := Lib.hid (K.below R4.out c5)
            have B5 := Lib.hid (B4.out.trans (c5.mono B4.out.size))
            clear c5
            go_wp2_with fail
            refine (HUs.out v5 F4 R5.out B5.out.size).mono ?_
            rintro e v6 ⟨rfl, c6⟩
            have R6 := Lib.hid (K.below R5.out c6)
            have B6 := Lib.hid (B5.out.trans (c6.mono B5.out.size))
            clear c6
            go_wp2
            go_roundw
            case rel => exact ⟨j + 1, r, c, d, m, fs, F4, rfl, by go_num, by go_num, by omega, HI'.out, R6.out, B6.out⟩
            case measure => simp [intOf]; omega
    · obtain rfl : j = n := by omega
      have d1 : ¬ (j : Int) < (j : Int) := by omega
      have hw1 := HI.out.tq
      have hw3 := HI.out.fr
      have hT := HI.out.T
      have hfs := HI.out.c
      have o1 := jur_open HI.out.ok
      rw [hw1, hw3] at o1
      have HP := Lib.hid (fun (wx : World) (F : Nat → Prop) (h : K.St w.heap.size wx D d [(J, m)] F) (hw : w.heap.size ≤ wx.heap.size) => K.open_ h (HI.out.dk.more (by omega)) hw 3 T (by omega) (by rw [HI.out.len]; omega) (by omega) fs _ o1)
      rw [hfs] at HP
      have HF := Lib.hid (fun wx => l14_full ⟨#[]⟩ wx (by decide))
      have hF0 := full_nil
      obtain ⟨Z, hZ⟩ : ∃ Z, fullT ⟨#[]⟩ = Z := ⟨_, rfl⟩
      rw [hZ] at HF hF0
      have q2 : sfD d (2 : Int) = sl Z := by rw [hF0, show (2 : Int) = ((2 : Nat) : Int) from rfl, safe_readJ HI.out.dk.pen (by rw [HI.out.len]; decide)]; exact HI.out.z2
      have q3 : sfD d (T : Int) = sl Z := by rw [hF0, safe_readJ HI.out.dk.pen (by rw [HI.out.len]; omega)]; exact HI.out.zT
      have HS2 := Lib.hid (fun (wx : World) (js : List (Nat × JurM)) (F : Nat → Prop) (h : K.St w.heap.size wx D d js F) (hw : w.heap.size ≤ wx.heap.size) => K.safe h (HI.out.dk.more (by omega)) hw 2 (by decide) Z q2)
      have HS3 := Lib.hid (fun (wx : World) (js : List (Nat × JurM)) (F : Nat → Prop) (h : K.St w.heap.size wx D d js F) (hw : w.heap.size ≤ wx.heap.size) => K.safe h (HI.out.dk.more (by omega)) hw (T : Int) (wf_small T (by omega)) Z q3)
      have t1 := txt_same Z
      clear hw1 hw3 hT hfs o1 q2 q3 hF0 hZ
      go_wp2_with fail
      refine (HP.out wo F RJ.out GB.out.size).mono ?_
      rintro e v4 ⟨J4, p4, c4, F4, rfl, r4, _, t4⟩
      have R4 := Lib.hid r4
      have B4 := Lib.hid (GB.out.trans t4.b)
      clear r4 t4 HP
      unfold ptD
      go_wp2_with fail
      refine (HS2.out v4 _ F4 R4.out B4.out.size).mono ?_
      rintro e v5 ⟨rfl, c5⟩
      have R5 := Lib.hid (K.below R4.out c5)
      have B5 := Lib.hid (B4.out.trans (c5.mono B4.out.size))
      clear c5
      go_wp2_with fail
      refine (HF.out _).mono ?_
      rintro e v6 ⟨rfl, c6⟩
      have R6 := Lib.hid (K.below R5.out c6)
      have B6 := Lib.hid (B5.out.trans (c6.mono B5.out.size))
      clear c6
      go_wp2_with fail
      refine (HS3.out v6 _ F4 R6.out B6.out.size).mono ?_
      rintro e v7 ⟨rfl, c7⟩
      have B7 := Lib.hid (B6.out.trans (c7.mono B6.out.size))
      clear c7
      go_wp2_with fail
      refine (HF.out _).mono ?_
      rintro e v8 ⟨rfl, c8⟩
      have B8 := Lib.hid (B7.out.trans (c8.mono B7.out.size))
      clear c8
      go_wp2
      go_ret
      exact ⟨rfl, B8.out⟩
theorem walk (l : List Nat) (p : Option Addr) (cap : Nat) (y : Int) (h0 : ∀ q ∈ l, q < 256) (h1 : (Lit.int .u8 y).wf = true) (w : World) (hS : Sl w 1 (.slice p l.length cap) (rowsU .u8 l)) :
    Calls Try.prog 4 #[.slice p l.length cap, .int .u8 y] w fun e w' => e = .returned (.bool true) ∧ Below w.heap.size w w' := walkK theJur l y p cap h1 h0 w hS
set_option maxRecDepth 100000 in
theorem lifted (os : Os) (started : os.Started) (H : Type) (enc : TypeId × Value → H) :
    ReturnsInHanded {} Try.checked os 4 .any (Rows.journalRoomSpec.pre6 enc Try.prog Try.f4 Rows.journalRoomRow.domain false) (Rows.journalRoomSpec.post enc Try.prog Try.f4 false true false false) := by
  refine returnsInHanded_of_change (C := Try.checked) own started (by kernel_rfl) Try.func4
    (ChangeSpec.witness6 (enc := enc) (C := Try.checked) false ⟨#[], #[.slice none 0 0, .int .u8 0], []⟩ 8 (by kernel_rfl) (by kernel_rfl) (by kernel_rfl) (by kernel_rfl)) ?_
  intro W base args ds gs before hval0 hW hcnd _
  have hval : ∀ (j : Nat) t v, Try.f4.params[j]? = some t → args[j]? = some v → Value.okWide Try.prog W .any base t v := hval0
  have hW' := hW
  obtain ⟨p, q, hA0, hV, rfl, hfz, hnd⟩ := hW
  have hA : DataW.TrodAll enc Try.prog W 0 (fun _ => true) true Try.f4.params.toList args.toList ds p := hA0
  rw [Try.params4] at hA hval
  obtain ⟨v0, vs0, d0, ds0, p0, q0, hargs, rfl, rfl, h0, r0⟩ := trodAll_cons hA
  obtain ⟨v1, vs1, d1, ds1, p1, q1, rfl, rfl, rfl, h1, r1⟩ := trodAll_cons r0
  obtain ⟨rfl, rfl, rfl⟩ := trodAll_nil r1
  obtain rfl : args = #[v0, v1] := by cases args; simp_all
  obtain ⟨rfl, rfl⟩ := trodVars_none hV
  have k0 := h0
  have lt0 : ∀ x ∈ p0, x.block < W.heap.size := by obtain ⟨m, hm⟩ := k0; exact DataW.trod_lt m _ _ _ hm
  obtain ⟨a0, m0, c0, rfl⟩ := Go.WideShapes.okWide_slice Try.underlying24 (hval 0 24 v0 rfl rfl)
  obtain ⟨l0, rfl, S0, n0⟩ := open_u8s h0
  obtain ⟨l1, rfl, rfl, rfl, n1⟩ := open_int Try.underlying5 (hval 1 5 v1 rfl rfl) h1
  clear hA0 hval0
  simp only [List.append_nil] at hW'
  refine (walk l0 a0 c0 l1 n0 n1 W S0).mono fun e W' ⟨he, bel⟩ => ?_
  subst he
  exact ⟨_, rfl, _, _, _, [], _, [], hW', trodAll_mk1 (shut_bool Try.underlying4 _), (trodAll_cons_mk (Below.trod laidOut (by kernel_rfl) (of_decide_eq_true (by kernel_rfl)) k0 bel lt0) (trodAll_cons_mk (shut_int Try.underlying5 n1) trodAll_mk0)), rfl, bel.frame _, fun h => by cases h⟩

theorem over : Rows.journalRoomRow.holds Try.pinned (OpenSpec.ofChange Rows.journalRoomSpec) :=
  OpenClaim.holds_of_wide 4 Try.f4 rfl rfl rfl rfl rfl rfl rfl ⟨rfl, rfl, rfl, rfl, rfl⟩ rfl rfl rfl rfl rfl (by kernel_rfl) Try.func4 (by kernel_rfl)
    (of_decide_eq_true (by kernel_rfl)) (by unfold Func.isWrapper; first | (rw [if_pos (by decide +kernel)]; kernel_rfl) | (rw [if_neg (by decide +kernel)]; exact ⟨rfl, rfl⟩))
    (fun os started H enc _ => lifted os started H enc)

theorem proved : Rows.JournalRoomSaid :=
  over
#print axioms proved
end Go.Proofs.Ytmonenbnjnjahaa.journalRoom
