/- Walks of the program's Blocks and May of versions. -/
import Derived.Test.YtogonbgelaehhaaHG
import Derived.Test.YtogonbgelaehhaaFD
namespace Go.Proofs.Ytogonbgelaehhaa
open Go.RowKit
set_option linter.unusedVariables false

/-- what a size is told by -/
def okS (z : Int) : Bool := decide (0 ≤ z ∧ z ≤ 300)
set_option maxRecDepth 100000 in
theorem h_maySize (z : Int) (b : Bool) (w : World) (hb : okS z = b) :
    Calls Try.prog 65 #[.int .i64 z] w fun e w' => e = .returned (.bool b) ∧ w' = w := by
  unfold okS at hb
  by_cases h0 : 0 ≤ z
  · have g1 : decide ((0 : Int) ≤ z) = true := by simp; exact h0
    by_cases h1 : z ≤ 300
    · have g2 : decide (z ≤ 300) = true := by simp; exact h1
      obtain rfl : true = b := by rw [← hb]; simp [h0, h1]
      clear hb h0 h1
      go_enter Try.func65, Try.ntmps65
      go_wp2
      go_ret
      exact ⟨rfl, rfl⟩
    · have g2 : decide (z ≤ 300) = false := by simp; omega
      obtain rfl : false = b := by rw [← hb]; simp [h1]
      clear hb h0 h1
      go_enter Try.func65, Try.ntmps65
      go_wp2
      go_ret
      exact ⟨rfl, rfl⟩
  · have g1 : decide ((0 : Int) ≤ z) = false := by simp; omega
    obtain rfl : false = b := by rw [← hb]; simp [h0]
    clear hb h0
    go_enter Try.func65, Try.ntmps65
    go_wp2
    go_ret
    exact ⟨rfl, rfl⟩
set_option maxRecDepth 100000 in
set_option maxHeartbeats 1000000 in
theorem h_maySizes (zs : List Int) (p : Option Addr) (c : Nat) (b : Bool) (w : World) (hb : zs.all okS = b) (hl : zs.length ≤ 1000) (hS : Sl w 1 (.slice p zs.length c) (rowsZF zs)) :
    Calls Try.prog 60 #[.slice p zs.length c] w fun e w' => e = .returned (.bool b) ∧ Below w.heap.size w w' := by
  have HS := Lib.hid hS
  have HB := Lib.hid hb
  clear hS hb
  go_enter Try.func60, Try.ntmps60
  go_wp2
  go_loopw [7] (fun i wr => ∃ j : Nat, j ≤ zs.length ∧ i = .int .i64 (j : Int) ∧ (∀ k, k < j → okS (zs.getD k 0) = true) ∧ Below w.heap.size w wr) (fun i _ => zs.length - (intOf i).toNat)
  case atStart => exact ⟨0, by omega, rfl, (fun k h => by omega), Below.refl _ _⟩
  case round =>
    obtain ⟨j, hj, rfl, hk, gb⟩ := hrel
    have HK := Lib.hid hk
    clear hk
    by_cases hlt : j < zs.length
    · obtain ⟨a, rfl, c1⟩ := SlZF.cell (HS.out.below gb) hlt
      have d1 : (j : Int) < (zs.length : Int) := by omega
      by_cases ho : okS (zs.getD j 0) = true
      · have HC := Lib.hid (h_maySize (zs.getD j 0) true wr ho)
        have HKN : Hid (∀ k, k < j + 1 → okS (zs.getD k 0) = true) := Lib.hid fun k hk => by
          by_cases e : k = j
          · subst e; exact ho
          · exact HK.out k (by omega)
        generalize zs.getD j 0 = z at *
        clear ho
        go_wp2_with fail
        refine HC.out.mono ?_
        rintro e w9 ⟨rfl, rfl⟩
        go_wp2
        go_roundw
        case rel => exact ⟨j + 1, by omega, by go_num, HKN.out, gb⟩
        case measure => simp [intOf]; omega
      · have ho' : okS (zs.getD j 0) = false := by simpa using ho
        have HC := Lib.hid (h_maySize (zs.getD j 0) false wr ho')
        have e0 : Hid (false = b) := Lib.hid (by
          rw [← HB.out]
          symm
          rw [List.all_eq_false]
          exact ⟨_, getZ_mem hlt, by rw [ho']; decide⟩)
        generalize zs.getD j 0 = z at *
        clear ho ho'
        go_wp2_with fail
        refine HC.out.mono ?_
        rintro e w9 ⟨rfl, rfl⟩
        go_wp2
        go_ret
        exact ⟨congrArg (fun x => Ending.returned (.bool x)) e0.out, gb⟩
    · obtain rfl : j = zs.length := by omega
      have e0 : Hid (true = b) := Lib.hid (by
        rw [← HB.out]
        symm
        rw [List.all_eq_true]
        intro z hz
        obtain ⟨k, hk, rfl⟩ := List.getElem_of_mem hz
        have := HK.out k hk
        rwa [List.getD_eq_getElem?_getD, List.getElem?_eq_getElem hk] at this)
      go_wp2
      go_ret
      exact ⟨congrArg (fun x => Ending.returned (.bool x)) e0.out, gb⟩
set_option maxRecDepth 100000 in
set_option maxHeartbeats 1000000 in
theorem h_Blocks (zs : List Int) (p : Option Addr) (c : Nat) (w : World) (hl : zs.length ≤ 1000) (hS : Sl w 1 (.slice p zs.length c) (rowsZF zs)) :
    Calls Try.prog 61 #[.slice p zs.length c] w fun e w' => e = .returned (.int .i64 ((blocksH zs : Nat) : Int)) ∧ Below w.heap.size w w' := by
  have HS := Lib.hid hS
  clear hS
  go_enter Try.func61, Try.ntmps61
  go_wp2
  go_loopw [3, 8] (fun u i wr => ∃ j : Nat, j ≤ zs.length ∧ i = .int .i64 (j : Int) ∧ u = .int .i64 ((sumF ((zs.take j).map cntS) : Nat) : Int) ∧ Below w.heap.size w wr) (fun _ i _ => zs.length - (intOf i).toNat)
  case atStart => exact ⟨0, by omega, rfl, rfl, Below.refl _ _⟩
  case round =>
    obtain ⟨j, hj, rfl, rfl, gb⟩ := hrel
    have hle := sumS_le zs j
    by_cases hlt : j < zs.length
    · obtain ⟨a, rfl, c1⟩ := SlZF.cell (HS.out.below gb) hlt
      have d1 : (j : Int) < (zs.length : Int) := by omega
      have HSN := Lib.hid (sumS_snoc zs hlt)
      generalize zs.getD j 0 = z at *
      generalize sumF ((zs.take j).map cntS) = N at *
      by_cases hz : 0 ≤ z ∧ z ≤ 300
      · obtain ⟨k, rfl⟩ : ∃ k : Nat, z = (k : Int) := ⟨z.toNat, by omega⟩
        have HC := Lib.hid (h_maySize (k : Int) true wr (by unfold okS; exact decide_eq_true hz))
        have E : Hid (sumF ((zs.take (j + 1)).map cntS) = N + k) := Lib.hid (by rw [HSN.out]; unfold cntS; rw [if_pos hz, Int.toNat_natCast])
        clear HSN
        go_wp2_with fail
        refine HC.out.mono ?_
        rintro e w9 ⟨rfl, rfl⟩
        go_wp2
        go_roundw
        case rel => exact ⟨j + 1, by omega, by go_num, by rw [E.out]; go_num, gb⟩
        case measure => simp [intOf]; omega
      · have HC := Lib.hid (h_maySize z false wr (by unfold okS; exact decide_eq_false hz))
        have E : Hid (sumF ((zs.take (j + 1)).map cntS) = N) := Lib.hid (by rw [HSN.out]; unfold cntS; rw [if_neg hz]; rfl)
        clear HSN hz
        go_wp2_with fail
        refine HC.out.mono ?_
        rintro e w9 ⟨rfl, rfl⟩
        go_wp2
        go_roundw
        case rel => exact ⟨j + 1, by omega, by go_num, by rw [E.out], gb⟩
        case measure => simp [intOf]; omega
    · obtain rfl : j = zs.length := by omega
      have hb : blocksH zs = (sumF ((zs.take zs.length).map cntS) + 255) / 256 := by unfold blocksH blkN; rw [List.take_length]
      generalize sumF ((zs.take zs.length).map cntS) = N at *
      have h1 : ((N : Int) + 256 - 1) / 256 = ((blocksH zs : Nat) : Int) := by rw [hb]; omega
      have H1 := Lib.hid h1
      clear hb h1
      go_wp2
      go_ret
      exact ⟨congrArg (fun x => Ending.returned (.int .i64 x)) H1.out, gb⟩
/-- files of these names, without data -/
def noData (ns : List (List Nat)) : List (List Nat × List Nat) := ns.map fun n => (n, [])
theorem noData_len (ns : List (List Nat)) : (noData ns).length = ns.length := by simp [noData]
theorem noData_snoc (ns : List (List Nat)) {j : Nat} (h : j < ns.length) : noData (ns.take (j + 1)) = noData (ns.take j) ++ [(ns.getD j [], [])] := by
  unfold noData
  rw [List.take_succ_eq_append_getElem h, List.map_append, List.getD_eq_getElem?_getD, List.getElem?_eq_getElem h]
  rfl
theorem wrote_noF {n j : Nat} {pre : List (List Nat × List Nat)} (hp : pre.length = j) (hj : j < n) : (wroteF n pre).getD j noF = noF := by
  unfold wroteF
  rw [List.getD_eq_getElem?_getD, List.getElem?_append_right (by omega), List.getElem?_replicate, if_pos (by omega)]
  rfl
theorem okF_noF : rowF noF = [.string ⟨#[]⟩, .string ⟨#[]⟩] := rfl
set_option maxRecDepth 100000 in
set_option maxHeartbeats 1000000 in
theorem h_mayNames (ns : List (List Nat)) (p : Option Addr) (c n : Nat) (w : World) (b : Bool) (hn : checkF (noData ns) = n) (hnb : ((n : Int) == 0) = b) (hl : ns.length ≤ 1000) (hy : ∀ x ∈ ns, Bys x) (hS : Sl w 1 (.slice p ns.length c) (rowsS ns)) :
    Calls Try.prog 59 #[.slice p ns.length c] w fun e w' => e = .returned (.bool b) ∧ Below w.heap.size w w' := by
  have HS := Lib.hid hS
  have HN := Lib.hid hn
  have HY := Lib.hid hy
  have HNB := Lib.hid hnb
  obtain ⟨G, hG⟩ : ∃ G, w.heap.size = G := ⟨_, rfl⟩
  have hmk := make_files ns.length (by omega)
  have k1 := Blk.newAt w G hG 104 (c := (rowsF (List.replicate ns.length noF)).flatten.toArray) _ rfl
  have kb := (Below.refl w.heap.size w).alloc (Nat.le_refl _) (.cells (rowsF (List.replicate ns.length noF)).flatten.toArray 104)
  have e0 : List.replicate ns.length noF = wroteF ns.length [] := by simp [wroteF]
  rw [e0] at k1 kb
  simp only [e0] at hmk
  have K1 := Lib.hid k1
  have KB := Lib.hid kb
  have HG := Lib.hid hG
  clear k1 kb hS hn hy hnb
  generalize hF0 : (rowsF (wroteF ns.length [])).flatten = F0 at *
  have HF0 := Lib.hid hF0
  have hmw := hmk w
  clear hF0 e0 hmk
  rw [hG] at hmw
  go_enter Try.func59, Try.ntmps59
  go_wp2
  clear hmw
  go_loopw [11] (fun i wr => ∃ j : Nat, j ≤ ns.length ∧ i = .int .i64 (j : Int) ∧ Blk wr G 104 (rowsF (wroteF ns.length (noData (ns.take j)))).flatten ∧ Below w.heap.size w wr) (fun i _ => ns.length - (intOf i).toNat)
  case atStart => exact ⟨0, by omega, rfl, by rw [List.take_zero, show noData [] = [] from rfl, HF0.out]; exact K1.out, KB.out⟩
  case round =>
    obtain ⟨j, hj, rfl, bG, gb⟩ := hrel
    clear K1 KB
    by_cases hlt : j < ns.length
    · obtain ⟨a, rfl, c1⟩ := SlS.cell (HS.out.below gb) hlt
      have d1 : (j : Int) < (ns.length : Int) := by omega
      have hpl : (noData (ns.take j)).length = j := by rw [noData_len, List.length_take]; omega
      obtain ⟨X, Z, hcu, hXl, hset⟩ := file_cut (wroteF ns.length (noData (ns.take j))) [] (i := j) (by rw [wroteF_len (by omega)]; exact hlt)
      have hset := hset (ns.getD j [], [])
      rw [List.append_nil] at hcu hset
      have hst : (rowsF (wroteF ns.length (noData (ns.take (j + 1))))).flatten = X ++ (rowF (ns.getD j [], []) ++ Z) := by
        rw [← hset, noData_snoc ns hlt, ← wroteF_set (by omega), hpl]
      rw [hcu, wrote_noF hpl hlt, okF_noF] at bG
      have b2 := bG.set (j * 2) (.string (tx (ns.getD j [])))
      rw [← hXl, List.set_append_right _ _ (Nat.le_refl _), Nat.sub_self] at b2
      have b3 : Hid (Blk (wr.setCell ⟨G, j * 2, none⟩ (.string (tx (ns.getD j [])))) G 104 (rowsF (wroteF ns.length (noData (ns.take (j + 1))))).flatten) := Lib.hid (by rw [hst, ← hXl]; exact b2)
      have gb2 : Hid (Below w.heap.size w (wr.setCell ⟨G, j * 2, none⟩ (.string (tx (ns.getD j []))))) := Lib.hid (gb.setCell (p := ⟨G, j * 2, none⟩) (show w.heap.size ≤ G by rw [HG.out]; exact Nat.le_refl _) _)
      have f1 := bG.free (j * 2)
      have f2 : wr.cell? ⟨G, j * 2, none⟩ = some (.string ⟨#[]⟩) := by
        rw [bG.cell, List.getElem?_append_right (by omega), hXl, Nat.sub_self]
        rfl
      clear b2 hst hset hcu hXl hpl bG gb
      generalize tx (ns.getD j []) = Y at *
      go_wp2
      go_roundw
      case rel => exact ⟨j + 1, by omega, by go_num, b3.out, gb2.out⟩
      case measure => simp [intOf]; omega
    · obtain rfl : j = ns.length := by omega
      rw [List.take_length, wroteF_all (noData_len ns)] at bG
      have sP := sl_blkS (k := 2) (cap := ns.length) (rest := []) rowsF_two (by rw [List.append_nil]; exact bG)
      rw [rowsF_len] at sP
      have HC := Lib.hid (f_Check (noData ns) (some ⟨G, 0, none⟩) ns.length n wr HN.out (fun f hf => by
        unfold noData at hf
        obtain ⟨x, hx, rfl⟩ := List.mem_map.1 hf
        exact HY.out x hx) (by rw [noData_len]; omega) sP)
      rw [noData_len] at HC
      clear sP bG hlt
      have GB := Lib.hid gb
      clear gb
      go_wp2_with fail
      refine HC.out.mono ?_
      rintro e w9 ⟨rfl, hb9⟩
      have GB9 := Lib.hid (GB.out.trans (hb9.mono GB.out.size))
      clear hb9
      go_wp2
      go_ret
      exact ⟨congrArg (fun x => Ending.returned (.bool x)) HNB.out, GB9.out⟩
theorem may_parts (nb : Nat) (ns : List (List Nat)) (zs : List Int) : mayH nb ns zs = (decide (ns.length = zs.length) && decide (checkF (noData ns) = 0) && zs.all okS && decide (nb = blocksH zs)) := by
  rw [Bool.eq_iff_iff, mayH_iff]
  simp only [Bool.and_eq_true, decide_eq_true_eq, List.all_eq_true]
  have hm : (∀ f ∈ noData ns, mayF f = true) ↔ ∀ n ∈ ns, 0 < n.length ∧ n.length ≤ 20 := by
    unfold noData
    constructor
    · intro h n hn
      have := (mayF_iff _).1 (h (n, []) (List.mem_map.2 ⟨n, hn, rfl⟩))
      exact ⟨this.1, this.2.1⟩
    · intro h f hf
      obtain ⟨n, hn, rfl⟩ := List.mem_map.1 hf
      exact (mayF_iff _).2 ⟨(h n hn).1, (h n hn).2, by simp⟩
  have hz : (∀ x ∈ zs, okS x = true) ↔ ∀ z ∈ zs, 0 ≤ z ∧ z ≤ 300 := by
    unfold okS
    simp only [decide_eq_true_eq]
  have hr : risesN ns = risesF (noData ns) := rfl
  rw [checkF_ok, noData_len, hm, hz, hr]
  constructor
  · rintro ⟨a, b, c, d, e, f⟩
    exact ⟨⟨⟨b, a, c, e⟩, d⟩, f⟩
  · rintro ⟨⟨⟨b, a, c, e⟩, d⟩, f⟩
    exact ⟨a, b, c, d, e, f⟩
set_option maxRecDepth 100000 in
set_option maxHeartbeats 4000000 in
theorem h_May (a : RawV) (v : Value) (b : Bool) (w : World) (hb : mayH a.bl.length a.ns a.zs = b) (hV : VV w v a) (hy : ∀ x ∈ a.ns, Bys x) (h1 : a.bl.length ≤ 1000) (h2 : a.ns.length ≤ 1000) (h3 : a.zs.length ≤ 1000) :
    Calls Try.prog 55 #[v] w fun e w' => e = .returned (.bool b) ∧ Below w.heap.size w w' := by
  obtain ⟨vb, vn, vz, rfl, ⟨pb, cb, rfl⟩, ⟨pn, cn, rfl⟩, ⟨pz, cz, rfl⟩, sb, sn, sz⟩ := hV
  obtain ⟨id, bl, ns, zs⟩ := a
  dsimp only at *
  have e0 : (cellsV id (.slice pb bl.length cb) (.slice pn ns.length cn) (.slice pz zs.length cz)).toArray = #[.int .u32 (id : Int), .slice pb bl.length cb, .slice pn ns.length cn, .slice pz zs.length cz] := rfl
  rw [e0]
  obtain ⟨B, hB⟩ : ∃ B, w.heap.size = B := ⟨_, rfl⟩
  have k0 := Blk.newAt w B hB 28 (c := #[.int .u32 (id : Int), .slice pb bl.length cb, .slice pn ns.length cn, .slice pz zs.length cz]) (cellsV id (.slice pb bl.length cb) (.slice pn ns.length cn) (.slice pz zs.length cz)) rfl
  have KB := Lib.hid ((Below.refl w.heap.size w).alloc (Nat.le_refl _) (.cells #[.int .u32 (id : Int), .slice pb bl.length cb, .slice pn ns.length cn, .slice pz zs.length cz] 28))
  obtain ⟨W, hW⟩ : ∃ W, w.alloc (.cells #[.int .u32 (id : Int), .slice pb bl.length cb, .slice pn ns.length cn, .slice pz zs.length cz] 28) = W := ⟨_, rfl⟩
  rw [hW] at k0 KB
  have K0 := Lib.hid k0
  have SN := Lib.hid (sn.below KB.out)
  have SZ := Lib.hid (sz.below KB.out)
  have HW := Lib.hid hW
  have HBE := Lib.hid hB
  have L1 : Hid (∀ wx, NewBut W wx → wx.cell? ⟨B, 1, none⟩ = some (.slice pb bl.length cb)) := Lib.hid fun wx h => by
    have := (K0.out.below h K0.out.lt).cell 1
    simpa [cellsV] using this
  have L2 : Hid (∀ wx, NewBut W wx → wx.cell? ⟨B, 2, none⟩ = some (.slice pn ns.length cn)) := Lib.hid fun wx h => by
    have := (K0.out.below h K0.out.lt).cell 2
    simpa [cellsV] using this
  have L3 : Hid (∀ wx, NewBut W wx → wx.cell? ⟨B, 3, none⟩ = some (.slice pz zs.length cz)) := Lib.hid fun wx h => by
    have := (K0.out.below h K0.out.lt).cell 3
    simpa [cellsV] using this
  have HP := Lib.hid ((may_parts bl.length ns zs).symm.trans hb)
  have QN := Lib.hid (fun (b : Bool) (hb : ((checkF (noData ns) : Int) == 0) = b) wx (h : NewBut W wx) => (h_mayNames ns pn cn _ wx b rfl hb (by omega) hy (SN.out.below h)).mono fun _ _ ⟨x1, x2⟩ => (⟨x1, h.trans (x2.mono h.size)⟩ : _ ∧ NewBut W _))
  have QS := Lib.hid (fun (b : Bool) (hb : zs.all okS = b) wx (h : NewBut W wx) => (h_maySizes zs pz cz b wx hb (by omega) (SZ.out.below h)).mono fun _ _ ⟨x1, x2⟩ => (⟨x1, h.trans (x2.mono h.size)⟩ : _ ∧ NewBut W _))
  have QB := Lib.hid (fun wx (h : NewBut W wx) => (h_Blocks zs pz cz wx (by omega) (SZ.out.below h)).mono fun _ _ ⟨x1, x2⟩ => (⟨x1, h.trans (x2.mono h.size)⟩ : _ ∧ NewBut W _))
  clear hb hy sn sz sb k0 e0 hW h1 h2 h3
  by_cases q1 : ns.length = zs.length
  · rw [← q1]
    by_cases q2 : checkF (noData ns) = 0
    · have QN1 := Lib.hid (QN.out true (by rw [q2]; rfl))
      cases q3 : zs.all okS with
      | true =>
        have QS1 := Lib.hid (QS.out true q3)
        rw [← q1] at QS1 QB L3 K0 HW
        by_cases q4 : bl.length = blocksH zs
        · have e1 : Hid (true = b) := Lib.hid (by rw [← HP.out, q2, q3, ← q4, q1]; simp)
          rw [← q4] at QB
          have m1 : ((bl.length : Int) == (bl.length : Int)) = true := by simp
          have m2 : ((ns.length : Int) == (ns.length : Int)) = true := by simp
          clear q1 q2 q3 q4 QN QS
          go_enter Try.func55, Try.ntmps55
          go_wp2_with fail
          rw [HW.out]
          clear hB
          refine region_quiet_tail (C := NewBut W) 26 mixed (by kernel_rfl) (show Below _ _ _ from (Below.refl _ _).drew) ?_
          simp only [List.take_succ_cons, List.take_zero, List.drop_succ_cons, List.drop_zero]
          repeat (first | go_big_quiet_step (fail) | (refine wpQuiet_load_one rfl 24 _ rfl ⟨B, 1, none⟩ rfl _ L1.out Try.underlying24 rfl ?_) | (refine wpQuiet_load_one rfl 25 _ rfl ⟨B, 2, none⟩ rfl _ L2.out Try.underlying25 rfl ?_) | (refine wpQuiet_load_one rfl 26 _ rfl ⟨B, 3, none⟩ rfl _ L3.out Try.underlying26 rfl ?_) | (refine wpQuiet_step (fun K' hK' => ?_); go_simp; first | (refine hK' _ ?_; clear hK' K') | (refine ⟨_, fun _ _ => rfl, hK' _ ?_⟩; clear hK' K') | ((with_reducible refine ⟨_, fun wx hx => QN1.out wx hx, hK' _ ?_⟩); clear hK' K') | ((with_reducible refine ⟨_, fun wx hx => QS1.out wx hx, hK' _ ?_⟩); clear hK' K') | ((with_reducible refine ⟨_, fun wx hx => QB.out wx hx, hK' _ ?_⟩); clear hK' K')))
          refine wpQuiet_nil ?_
          intro w5 hb5
          have G5 := Lib.hid (KB.out.trans (Below.mono hb5 KB.out.size))
          clear hb5
          go_wp2
          go_ret
          exact ⟨congrArg (fun x => Ending.returned (.bool x)) e1.out, G5.out⟩
        · have e1 : Hid (false = b) := Lib.hid (by rw [← HP.out]; simp [q4])
          obtain ⟨M, hM⟩ : ∃ M, blocksH zs = M := ⟨_, rfl⟩
          rw [hM] at QB q4
          have m1 : ((bl.length : Int) == (M : Int)) = false := by rw [beq_eq_false_iff_ne]; omega
          have m2 : ((ns.length : Int) == (ns.length : Int)) = true := by simp
          clear q1 q2 q3 q4 hM QN QS
          go_enter Try.func55, Try.ntmps55
          go_wp2_with fail
          rw [HW.out]
          clear hB
          refine region_quiet_tail (C := NewBut W) 26 mixed (by kernel_rfl) (show Below _ _ _ from (Below.refl _ _).drew) ?_
          simp only [List.take_succ_cons, List.take_zero, List.drop_succ_cons, List.drop_zero]
          repeat (first | go_big_quiet_step (fail) | (refine wpQuiet_load_one rfl 24 _ rfl ⟨B, 1, none⟩ rfl _ L1.out Try.underlying24 rfl ?_) | (refine wpQuiet_load_one rfl 25 _ rfl ⟨B, 2, none⟩ rfl _ L2.out Try.underlying25 rfl ?_) | (refine wpQuiet_load_one rfl 26 _ rfl ⟨B, 3, none⟩ rfl _ L3.out Try.underlying26 rfl ?_) | (refine wpQuiet_step (fun K' hK' => ?_); go_simp; first | (refine hK' _ ?_; clear hK' K') | (refine ⟨_, fun _ _ => rfl, hK' _ ?_⟩; clear hK' K') | ((with_reducible refine ⟨_, fun wx hx => QN1.out wx hx, hK' _ ?_⟩); clear hK' K') | ((with_reducible refine ⟨_, fun wx hx => QS1.out wx hx, hK' _ ?_⟩); clear hK' K') | ((with_reducible refine ⟨_, fun wx hx => QB.out wx hx, hK' _ ?_⟩); clear hK' K')))
          refine wpQuiet_nil ?_
          intro w5 hb5
          have G5 := Lib.hid (KB.out.trans (Below.mono hb5 KB.out.size))
          clear hb5
          go_wp2
          go_ret
          exact ⟨congrArg (fun x => Ending.returned (.bool x)) e1.out, G5.out⟩
      | false =>
        have QS1 := Lib.hid (QS.out false q3)
        have e1 : Hid (false = b) := Lib.hid (by rw [← HP.out, q3]; simp)
        rw [← q1] at QS1 L3 K0 HW
        have m2 : ((ns.length : Int) == (ns.length : Int)) = true := by simp
        clear q1 q2 q3 QN QS QB
        go_enter Try.func55, Try.ntmps55
        go_wp2_with fail
        rw [HW.out]
        clear hB
        refine region_quiet_tail (C := NewBut W) 26 mixed (by kernel_rfl) (show Below _ _ _ from (Below.refl _ _).drew) ?_
        simp only [List.take_succ_cons, List.take_zero, List.drop_succ_cons, List.drop_zero]
        repeat (first | go_big_quiet_step (fail) | (refine wpQuiet_load_one rfl 24 _ rfl ⟨B, 1, none⟩ rfl _ L1.out Try.underlying24 rfl ?_) | (refine wpQuiet_load_one rfl 25 _ rfl ⟨B, 2, none⟩ rfl _ L2.out Try.underlying25 rfl ?_) | (refine wpQuiet_load_one rfl 26 _ rfl ⟨B, 3, none⟩ rfl _ L3.out Try.underlying26 rfl ?_) | (refine wpQuiet_step (fun K' hK' => ?_); go_simp; first | (refine hK' _ ?_; clear hK' K') | (refine ⟨_, fun _ _ => rfl, hK' _ ?_⟩; clear hK' K') | ((with_reducible refine ⟨_, fun wx hx => QN1.out wx hx, hK' _ ?_⟩); clear hK' K') | ((with_reducible refine ⟨_, fun wx hx => QS1.out wx hx, hK' _ ?_⟩); clear hK' K')))
        refine wpQuiet_nil ?_
        intro w5 hb5
        have G5 := Lib.hid (KB.out.trans (Below.mono hb5 KB.out.size))
        clear hb5
        go_wp2
        go_ret
        exact ⟨congrArg (fun x => Ending.returned (.bool x)) e1.out, G5.out⟩
    · have QN1 := Lib.hid (QN.out false (by rw [beq_eq_false_iff_ne]; omega))
      have e1 : Hid (false = b) := Lib.hid (by rw [← HP.out]; simp [q2])
      rw [← q1] at L3 K0 HW
      have m2 : ((ns.length : Int) == (ns.length : Int)) = true := by simp
      clear q1 q2 QN QS QB
      go_enter Try.func55, Try.ntmps55
      go_wp2_with fail
      rw [HW.out]
      clear hB
      refine region_quiet_tail (C := NewBut W) 26 mixed (by kernel_rfl) (show Below _ _ _ from (Below.refl _ _).drew) ?_
      simp only [List.take_succ_cons, List.take_zero, List.drop_succ_cons, List.drop_zero]
      repeat (first | go_big_quiet_step (fail) | (refine wpQuiet_load_one rfl 24 _ rfl ⟨B, 1, none⟩ rfl _ L1.out Try.underlying24 rfl ?_) | (refine wpQuiet_load_one rfl 25 _ rfl ⟨B, 2, none⟩ rfl _ L2.out Try.underlying25 rfl ?_) | (refine wpQuiet_load_one rfl 26 _ rfl ⟨B, 3, none⟩ rfl _ L3.out Try.underlying26 rfl ?_) | (refine wpQuiet_step (fun K' hK' => ?_); go_simp; first | (refine hK' _ ?_; clear hK' K') | (refine ⟨_, fun _ _ => rfl, hK' _ ?_⟩; clear hK' K') | ((with_reducible refine ⟨_, fun wx hx => QN1.out wx hx, hK' _ ?_⟩); clear hK' K')))
      refine wpQuiet_nil ?_
      intro w5 hb5
      have G5 := Lib.hid (KB.out.trans (Below.mono hb5 KB.out.size))
      clear hb5
      go_wp2
      go_ret
      exact ⟨congrArg (fun x => Ending.returned (.bool x)) e1.out, G5.out⟩
  · have e1 : Hid (false = b) := Lib.hid (by rw [← HP.out]; simp [q1])
    have m2 : ((ns.length : Int) == (zs.length : Int)) = false := by rw [beq_eq_false_iff_ne]; omega
    clear q1 QN QS QB
    go_enter Try.func55, Try.ntmps55
    go_wp2_with fail
    rw [HW.out]
    clear hB
    refine region_quiet_tail (C := NewBut W) 26 mixed (by kernel_rfl) (show Below _ _ _ from (Below.refl _ _).drew) ?_
    simp only [List.take_succ_cons, List.take_zero, List.drop_succ_cons, List.drop_zero]
    repeat (first | go_big_quiet_step (fail) | (refine wpQuiet_load_one rfl 24 _ rfl ⟨B, 1, none⟩ rfl _ L1.out Try.underlying24 rfl ?_) | (refine wpQuiet_load_one rfl 25 _ rfl ⟨B, 2, none⟩ rfl _ L2.out Try.underlying25 rfl ?_) | (refine wpQuiet_load_one rfl 26 _ rfl ⟨B, 3, none⟩ rfl _ L3.out Try.underlying26 rfl ?_) | (refine wpQuiet_step (fun K' hK' => ?_); go_simp; first | (refine hK' _ ?_; clear hK' K') | (refine ⟨_, fun _ _ => rfl, hK' _ ?_⟩; clear hK' K')))
    refine wpQuiet_nil ?_
    intro w5 hb5
    have G5 := Lib.hid (KB.out.trans (Below.mono hb5 KB.out.size))
    clear hb5
    go_wp2
    go_ret
    exact ⟨congrArg (fun x => Ending.returned (.bool x)) e1.out, G5.out⟩
end Go.Proofs.Ytogonbgelaehhaa
