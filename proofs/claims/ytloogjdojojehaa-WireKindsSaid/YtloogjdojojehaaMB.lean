/- Walks of the wire's bounds, mayOp, mayRequest (stage 18). Written by gen/mkmb.py. -/
import Derived.Test.YtloogjdojojehaaMA
import Derived.Test.YtloogjdojojehaaHP1
import Derived.Test.YtloogjdojojehaaGrd
import Derived.Test.YtloogjdojojehaaG1
namespace Go.Proofs.Ytloogjdojojehaa
open Go.RowKit
set_option linter.unusedVariables false

theorem w_withinI (n lo hi : Int) (b : Bool) (w : World) (hb : decide (lo ≤ n ∧ n ≤ hi) = b) :
    Calls Try.prog 32 #[.int .i64 n, .int .i64 lo, .int .i64 hi] w fun e w' => e = .returned (.bool b) ∧ w' = w := by
  by_cases h0 : lo ≤ n
  · by_cases h1 : n ≤ hi
    · have g1 : decide (lo ≤ n) = true := decide_eq_true h0
      have g2 : decide (n ≤ hi) = true := decide_eq_true h1
      obtain rfl : true = b := by rw [← hb]; simp [h0, h1]
      clear hb
      go_enter Try.func32, Try.ntmps32
      go_wp2_with (first | (go_skip) | fail)
      go_ret
      exact ⟨rfl, rfl⟩
    · have g1 : decide (lo ≤ n) = true := decide_eq_true h0
      have g2 : decide (n ≤ hi) = false := decide_eq_false h1
      obtain rfl : false = b := by rw [← hb]; simp [h1]
      clear hb
      go_enter Try.func32, Try.ntmps32
      go_wp2_with (first | (go_skip) | fail)
      go_ret
      exact ⟨rfl, rfl⟩
  · have g1 : decide (lo ≤ n) = false := decide_eq_false h0
    obtain rfl : false = b := by rw [← hb]; simp [h0]
    clear hb
    go_enter Try.func32, Try.ntmps32
    go_wp2_with (first | (go_skip) | fail)
    go_ret
    exact ⟨rfl, rfl⟩
theorem w_withinE (n lo hi : Int) (b : Bool) (w : World) (hb : decide (lo ≤ n ∧ n ≤ hi) = b) :
    Calls Try.prog 57 #[.int .i64 n, .int .i64 lo, .int .i64 hi] w fun e w' => e = .returned (.bool b) ∧ w' = w := by
  by_cases h0 : lo ≤ n
  · by_cases h1 : n ≤ hi
    · have g1 : decide (lo ≤ n) = true := decide_eq_true h0
      have g2 : decide (n ≤ hi) = true := decide_eq_true h1
      obtain rfl : true = b := by rw [← hb]; simp [h0, h1]
      clear hb
      go_enter Try.func57, Try.ntmps57
      go_wp2_with (first | (go_skip) | fail)
      go_ret
      exact ⟨rfl, rfl⟩
    · have g1 : decide (lo ≤ n) = true := decide_eq_true h0
      have g2 : decide (n ≤ hi) = false := decide_eq_false h1
      obtain rfl : false = b := by rw [← hb]; simp [h1]
      clear hb
      go_enter Try.func57, Try.ntmps57
      go_wp2_with (first | (go_skip) | fail)
      go_ret
      exact ⟨rfl, rfl⟩
  · have g1 : decide (lo ≤ n) = false := decide_eq_false h0
    obtain rfl : false = b := by rw [← hb]; simp [h0]
    clear hb
    go_enter Try.func57, Try.ntmps57
    go_wp2_with (first | (go_skip) | fail)
    go_ret
    exact ⟨rfl, rfl⟩
theorem w_client (n : Int) (b : Bool) (w : World) (hb : decide (0 ≤ n ∧ n ≤ 2) = b) :
    Calls Try.prog 35 #[.int .i64 n] w fun e w' => e = .returned (.bool b) ∧ w' = w := by
  have HW := Lib.hid (fun wx => w_withinI n 0 2 b wx hb)
  clear hb
  go_enter Try.func35, Try.ntmps35
  go_wp2_with fail
  refine (HW.out _).mono ?_
  rintro e w2 ⟨rfl, rfl⟩
  go_wp2
  go_ret
  exact ⟨rfl, rfl⟩
theorem w_opKind (n : Int) (b : Bool) (w : World) (hb : decide (1 ≤ n ∧ n ≤ 5) = b) :
    Calls Try.prog 37 #[.int .i64 n] w fun e w' => e = .returned (.bool b) ∧ w' = w := by
  have HW := Lib.hid (fun wx => w_withinI n 1 5 b wx hb)
  clear hb
  go_enter Try.func37, Try.ntmps37
  go_wp2_with fail
  refine (HW.out _).mono ?_
  rintro e w2 ⟨rfl, rfl⟩
  go_wp2
  go_ret
  exact ⟨rfl, rfl⟩
theorem w_end (k : Int) (b : Bool) (w : World) (hb : endM2 k = b) :
    Calls Try.prog 33 #[.int .i64 k] w fun e w' => e = .returned (.bool b) ∧ w' = w := by
  have h1 := fun (bb : Bool) (h : decide ((0 : Int) ≤ k ∧ k ≤ 2) = bb) (wx : World) => w_withinI k 0 2 bb wx h
  have h2 := fun (bb : Bool) (h : decide ((10 : Int) ≤ k ∧ k ≤ 12) = bb) (wx : World) => w_withinI k 10 12 bb wx h
  unfold endM2 at hb
  by_cases c1 : (0 : Int) ≤ k ∧ k ≤ 2
  · have HW := Lib.hid (h1 true (decide_eq_true c1))
    obtain rfl : true = b := by rw [← hb]; exact (decide_eq_true (.inl c1)).symm
    clear hb h1 h2 c1
    go_enter Try.func33, Try.ntmps33
    go_wp2_with (first | (go_skip) | fail)
    refine (HW.out _).mono ?_
    rintro e w2 ⟨rfl, rfl⟩
    go_wp2_with (first | (go_skip) | fail)
    go_ret
    exact ⟨rfl, rfl⟩
  · have HW := Lib.hid (h1 false (decide_eq_false c1))
    have hb2 : decide ((10 : Int) ≤ k ∧ k ≤ 12) = b := by rw [← hb, decide_eq_decide]; exact ⟨.inr, fun h => h.resolve_left c1⟩
    have HV := Lib.hid (h2 b hb2)
    clear hb h1 h2 c1 hb2
    go_enter Try.func33, Try.ntmps33
    go_wp2_with (first | (go_skip) | fail)
    refine (HW.out _).mono ?_
    rintro e w2 ⟨rfl, rfl⟩
    go_wp2_with (first | (go_skip) | fail)
    refine (HV.out _).mono ?_
    rintro e w3 ⟨rfl, rfl⟩
    go_wp2_with (first | (go_skip) | fail)
    go_ret
    exact ⟨rfl, rfl⟩
/-- may an op be? -/
def opMay (k : Int) (i : Nat) (a : RawV) : Bool := if k = 1 then decide (i = 0) && mayR a else sameV a noV
theorem op_cellsW {w : World} {v : Value} {k : Int} {i : Nat} {a : RawV} (h : OpTold w v k i a) : ∃ R : List Value, v = .agg R.toArray ∧ R.length = 6 ∧ R[0]? = some (.int .i64 k) ∧ R[1]? = some (.int .u32 (i : Int)) ∧ VV w (.agg (R.drop 2).toArray) a := by
  obtain ⟨q, rfl, hv⟩ := h
  obtain ⟨pb, cb, pn, cn, pz, cz, rfl⟩ := hv.row
  exact ⟨_, rfl, rfl, rfl, rfl, hv⟩
set_option maxRecDepth 100000 in
set_option maxHeartbeats 2000000 in
theorem w_mayOp (k : Int) (i : Nat) (a : RawV) (v : Value) (b : Bool) (w : World) (hb : opMay k i a = b) (hv : OpTold w v k i a) (ha : VerS a) :
    Calls Try.prog 38 #[v] w fun e w' => e = .returned (.bool b) ∧ Below w.heap.size w w' := by
  obtain ⟨R, rfl, hRl, h0, h1, hV⟩ := op_cellsW hv
  have k0 := Blk.new' w 38 (c := R.toArray) R rfl
  have kb := (Below.refl w.heap.size w).alloc (Nat.le_refl _) (.cells R.toArray 38)
  have c0 := k0.cellOf h0
  have c1 := k0.cellOf h1
  have KB := Lib.hid kb
  have HD4 : Hid ((R.drop 2).length = 4) := Lib.hid (by rw [List.length_drop, hRl])
  have HV1 : Hid (∀ i x, (R.drop 2)[i]? = some x → (w.alloc (.cells R.toArray 38)).cell? ((⟨w.heap.size, 2, none⟩ : Addr).add i) = some x) := Lib.hid fun i x hx => by
    rw [Addr.add_mid, k0.cell]
    rw [List.getElem?_drop] at hx
    exact hx
  have hy : ∀ x ∈ a.ns, Bys x := ha.1.2.2.1
  have HM := Lib.hid (fun (bb : Bool) (h : mayR a = bb) => h_May a (.agg (R.drop 2).toArray) bb (w.alloc (.cells R.toArray 38)) h (hV.below kb) hy ha.2.1 ha.2.2.1 ha.2.2.2)
  have HS := Lib.hid (fun (bb : Bool) (h : sameV a noV = bb) => h_Same a noV (.agg (R.drop 2).toArray) _ bb (w.alloc (.cells R.toArray 38)) h (hV.below kb) (VV.none _) ha.1 noV_ok (Nat.le_trans ha.2.1 (by decide)) (Nat.le_trans ha.2.2.1 (by decide)) (Nat.le_trans ha.2.2.2 (by decide)))
  unfold opMay at hb
  clear k0 kb h0 h1 hv hV ha hy hRl
  by_cases hk : k = 1
  · rw [if_pos hk] at hb
    rw [hk] at c0
    by_cases hi : i = 0
    · have HM1 := Lib.hid (HM.out b (by rw [← hb, decide_eq_true hi, Bool.true_and]))
      rw [hi] at c1
      clear hb hk hi HM HS
      go_enter Try.func38, Try.ntmps38
      go_wp2_with (first | (go_skip) | (refine wpList_load_addrV rfl 30 _ rfl ⟨w.heap.size, 2, none⟩ rfl (R.drop 2) HV1.out Try.underlying30 rfl (by rw [size_ver, HD4.out]) ?_))
      refine HM1.out.mono ?_
      rintro e w2 ⟨rfl, b2⟩
      have B2 := Lib.hid (KB.out.trans (b2.mono KB.out.size))
      clear b2
      go_wp2_with (first | (go_skip) | fail)
      go_ret
      exact ⟨rfl, B2.out⟩
    · obtain rfl : false = b := by rw [← hb, decide_eq_false hi]; rfl
      have e : (((i : Nat) : Int) == 0) = false := by simp; omega
      clear hb hk hi HM HS
      go_enter Try.func38, Try.ntmps38
      go_wp2_with (first | (go_skip) | fail)
      go_ret
      exact ⟨rfl, KB.out⟩
  · rw [if_neg hk] at hb
    have HS1 := Lib.hid (HS.out b hb)
    have e : (k == 1) = false := by simpa using hk
    clear hb hk HM HS c1
    go_enter Try.func38, Try.ntmps38
    go_wp2_with (first | (go_skip) | (refine wpList_load_addrV rfl 30 _ rfl ⟨w.heap.size, 2, none⟩ rfl (R.drop 2) HV1.out Try.underlying30 rfl (by rw [size_ver, HD4.out]) ?_))
    refine HS1.out.mono ?_
    rintro e w2 ⟨rfl, b2⟩
    have B2 := Lib.hid (KB.out.trans (b2.mono KB.out.size))
    clear b2
    go_wp2
    go_ret
    exact ⟨rfl, B2.out⟩
theorem may_noV : mayR noV = true := by decide
/-- a request may be, told by its parts -/
theorem mayBe_op (r : ReqU RawV) : mayBeR r = (decide ((0 : Int) ≤ r.client ∧ r.client ≤ 2) && (decide ((1 : Int) ≤ r.kind ∧ r.kind ≤ 5) && opMay r.kind r.id r.ver)) := by
  unfold mayBeR opMay
  by_cases hk : r.kind = 1
  · rw [if_pos hk, if_pos hk, Bool.eq_iff_iff]
    simp only [Bool.and_eq_true, decide_eq_true_eq]
    constructor
    · rintro ⟨⟨⟨⟨⟨a, b⟩, c⟩, d⟩, e⟩, f⟩
      exact ⟨⟨a, by omega⟩, ⟨c, d⟩, f, e⟩
    · rintro ⟨⟨a, b⟩, ⟨c, d⟩, f, e⟩
      exact ⟨⟨⟨⟨⟨a, by omega⟩, c⟩, d⟩, e⟩, f⟩
  · rw [if_neg hk, if_neg hk, Bool.eq_iff_iff]
    simp only [Bool.and_eq_true, decide_eq_true_eq]
    constructor
    · rintro ⟨⟨⟨⟨⟨a, b⟩, c⟩, d⟩, e⟩, f⟩
      exact ⟨⟨a, by omega⟩, ⟨c, d⟩, f⟩
    · rintro ⟨⟨a, b⟩, ⟨c, d⟩, f⟩
      exact ⟨⟨⟨⟨⟨a, by omega⟩, c⟩, d⟩, by rw [sameV_eq f]; exact may_noV⟩, f⟩
theorem req_op {w : World} {R : List Value} {r : ReqU RawV} (h : ReqTold w (.agg R.toArray) r) : OpTold w (.agg (R.drop 2).toArray) r.kind r.id r.ver := by
  obtain ⟨q, e, hv⟩ := h
  have := congrArg (fun v => match v with | Value.agg c => c.toList | _ => []) e
  simp at this
  exact ⟨q, by rw [this]; rfl, hv⟩
set_option maxRecDepth 100000 in
set_option maxHeartbeats 2000000 in
theorem w_mayRequest (r : ReqU RawV) (v : Value) (b : Bool) (w : World) (hb : mayBeR r = b) (hv : ReqTold w v r) (ha : VerS r.ver) :
    Calls Try.prog 18 #[v] w fun e w' => e = .returned (.bool b) ∧ Below w.heap.size w w' := by
  obtain ⟨R, rfl, hRl, h0, _, h2, h3, hV⟩ := req_cells hv
  have k0 := Blk.new' w 40 (c := R.toArray) R rfl
  have kb := (Below.refl w.heap.size w).alloc (Nat.le_refl _) (.cells R.toArray 40)
  have c0 := k0.cellOf h0
  have c2 := k0.cellOf h2
  have KB := Lib.hid kb
  have HD4 : Hid ((R.drop 2).length = 6) := Lib.hid (by rw [List.length_drop, hRl])
  have HV1 : Hid (∀ i x, (R.drop 2)[i]? = some x → (w.alloc (.cells R.toArray 40)).cell? ((⟨w.heap.size, 2, none⟩ : Addr).add i) = some x) := Lib.hid fun i x hx => by
    rw [Addr.add_mid, k0.cell]
    rw [List.getElem?_drop] at hx
    exact hx
  have HO := Lib.hid (fun (bb : Bool) (h : opMay r.kind r.id r.ver = bb) => w_mayOp r.kind r.id r.ver (.agg (R.drop 2).toArray) bb (w.alloc (.cells R.toArray 40)) h (req_op (hv.below kb)) ha)
  rw [mayBe_op] at hb
  obtain ⟨b0, e0⟩ : ∃ b0, decide ((0 : Int) ≤ r.client ∧ r.client ≤ 2) = b0 := ⟨_, rfl⟩
  obtain ⟨b1, e1⟩ : ∃ b1, decide ((1 : Int) ≤ r.kind ∧ r.kind ≤ 5) = b1 := ⟨_, rfl⟩
  obtain ⟨b2, e2⟩ : ∃ b2, opMay r.kind r.id r.ver = b2 := ⟨_, rfl⟩
  have H0 := Lib.hid (fun wx => w_client r.client b0 wx e0)
  have H1 := Lib.hid (fun wx => w_opKind r.kind b1 wx e1)
  have H2 := Lib.hid (HO.out b2 e2)
  rw [e0, e1, e2] at hb
  have HB := Lib.hid hb
  clear k0 kb h0 h2 h3 hv hV ha hb HO e0 e1 e2
  generalize r.client = cl at *
  generalize r.kind = kd at *
  go_enter Try.func18, Try.ntmps18
  go_wp2_with (first | (go_skip) | fail)
  refine (H0.out _).mono ?_
  rintro e w2 ⟨rfl, rfl⟩
  cases b0
  · obtain rfl : false = b := by rw [← HB.out]; rfl
    go_wp2_with (first | (go_skip) | fail)
    go_ret
    exact ⟨rfl, KB.out⟩
  go_wp2_with (first | (go_skip) | fail)
  refine (H1.out _).mono ?_
  rintro e w2 ⟨rfl, rfl⟩
  cases b1
  · obtain rfl : false = b := by rw [← HB.out]; rfl
    go_wp2_with (first | (go_skip) | fail)
    go_ret
    exact ⟨rfl, KB.out⟩
  go_wp2_with (first | (go_skip) | (refine wpList_load_addrV rfl 38 _ rfl ⟨w.heap.size, 2, none⟩ rfl (R.drop 2) HV1.out Try.underlying38 rfl (by rw [size_op, HD4.out]) ?_))
  refine H2.out.mono ?_
  rintro e w3 ⟨rfl, b3⟩
  have B3 := Lib.hid (KB.out.trans (b3.mono KB.out.size))
  clear b3
  go_wp2_with (first | (go_skip) | fail)
  go_ret
  exact ⟨congrArg (fun x => Ending.returned (.bool x)) (by rw [← HB.out]; simp), B3.out⟩
end Go.Proofs.Ytloogjdojojehaa
namespace Go.Proofs.Ytloogjdojojehaa
open Go.RowKit
set_option linter.unusedVariables false

theorem VO.but {w w' : World} {base B : Nat} {v : Value} {a : RawV} (h : VO w base v a) (hg : w.grownBy w' (some B)) (hB : B < base) : VO w' base v a := by
  obtain ⟨vb, vn, vz, e, h1, h2, h3⟩ := h
  have hne : ∀ {e : TypeId} {k : Nat} {x : Value} {rows : List (List Value)}, OwnR w base e k x rows → ∀ b, x.ownBlock = some b → some b ≠ some B := fun q b hb he => by
    have := (q.lt b hb).1
    cases he
    omega
  exact ⟨vb, vn, vz, e, h1.grownO hg (hne h1), h2.grownO hg (hne h2), h3.grownO hg (hne h3)⟩
theorem vo_cell {w : World} {base : Nat} {v : Value} {a : RawV} (h : VO w base v a) {r : Nat} (hr : r < base) (j : Nat) (x : Value) : VO (w.setCell ⟨r, j, none⟩ x) base v a :=
  h.but (grown_setCell w ⟨r, j, none⟩ x) hr
theorem vo_cells {base : Nat} {v : Value} {a : RawV} {r : Nat} (hr : r < base) : ∀ (y : List Value) (j : Nat) {w : World}, VO w base v a → VO (w.setCells r j y) base v a
  | [], _, _, h => h
  | x :: y, j, _, h => vo_cells hr y (j + 1) (vo_cell h hr j x)
set_option maxRecDepth 100000 in
set_option maxHeartbeats 1000000 in
theorem w_takeV_ok (B : Nat) (C : List Value) (hC : C.length = 4) (h1 : C.toArray.all (·.oneCell') = true) (s r : List Nat) (w : World) (hB : Left w B s) :
    Calls Try.prog 65 #[.pointer (some ⟨B, 0, none⟩), .agg C.toArray, .string (tx r), .int .i64 0] w fun e w' => e = .returned (.agg C.toArray) ∧ w.grownBy w' (some B) ∧ Left w' B r := by
  obtain ⟨N, hN⟩ : ∃ N, w.heap.size = N := ⟨_, rfl⟩
  have k0 := (Blk.newAt w N hN 30 (c := C.toArray) C rfl).alloc (.cells zV.toArray 30)
  have k1 := Blk.newAt (w.alloc (.cells C.toArray 30)) (N + 1) (by simp [hN]) 30 (c := zV.toArray) zV rfl
  have kb := ((Below.refl w.heap.size w).alloc (Nat.le_refl _) (.cells C.toArray 30)).alloc (by simp) (.cells zV.toArray 30)
  obtain ⟨W, hW⟩ : ∃ W, (w.alloc (.cells C.toArray 30)).alloc (.cells zV.toArray 30) = W := ⟨_, rfl⟩
  have hz : ∀ wx : World, wx = w.alloc (.cells C.toArray 30) → wx.heap.size = N + 1 := fun wx e => by rw [e]; simp [hN]
  have HZ := Lib.hid hz
  rw [hW] at k0 k1 kb
  have L := hB.keep kb
  have hlt := hB.lt
  have n0 : B ≠ N := by omega
  have n1 : B ≠ N + 1 := by omega
  have HW := Lib.hid hW
  have c0 := L.cell
  have f0 := L.free
  have K0 := Lib.hid (k0.other (a := ⟨B, 0, none⟩) (fun e => n0 e) (.string (tx r)))
  have K1 := Lib.hid (k1.other (a := ⟨B, 0, none⟩) (fun e => n1 e) (.string (tx r)))
  have L3 := Lib.hid ((L.put r).rowOther (fun e => n1 e.symm) C.toArray)
  have G3 := Lib.hid (grown_setRowN (((grown_below kb).but (some B)).trans (grown_setCell W ⟨B, 0, none⟩ (.string (tx r)))) (show w.heap.size ≤ N + 1 by omega) C.toArray)
  have HC := Lib.hid hC
  have H1 := Lib.hid h1
  have HM := Lib.hid w_need_ok
  have HN := Lib.hid hN
  clear k0 k1 kb hB hW L n0 n1 hz hC h1 hlt hN
  generalize tx r = R at *
  generalize tx s = S at *
  go_enter Try.func65, Try.ntmps65
  go_wp2_with (first | (refine wpList_alloc_n rfl 30 rfl (N + 1) (HZ.out _ rfl) zV.toArray (alloc_ver _) ?_; rw [HW.out]))
  refine (HM.out _ _).mono ?_
  rintro e w2 ⟨rfl, rfl⟩
  go_wp2_with (first | (refine wpList_load_blkW rfl 30 _ rfl w.heap.size rfl (by rw [HN.out]; exact K0.out) Try.underlying30 rfl (by rw [size_ver, HC.out]) ?_) | (refine wpList_store_blk rfl 30 _ _ rfl (N + 1) C rfl rfl K1.out (by rw [size_ver, HC.out]) (by rw [HC.out]; rfl) H1.out ?_))
  refine bodyPost_ret (v := .agg C.toArray) (results_cell_blk rfl _ _ _ rfl (K1.out.row C (by rw [HC.out]; rfl)) Try.underlying30 rfl (by rw [size_ver, HC.out])) rfl ⟨rfl, G3.out, L3.out⟩
set_option maxRecDepth 100000 in
set_option maxHeartbeats 1000000 in
theorem w_takeV_no (B : Nat) (C : List Value) (r : ByteArray) (er : Nat) (w : World) (he : er ≠ 0) :
    Calls Try.prog 65 #[.pointer (some ⟨B, 0, none⟩), .agg C.toArray, .string r, .int .i64 (er : Int)] w fun e w' => e = DiedW er ∧ w.grownBy w' (some B) := by
  have e0 : ((er : Int) == 0) = false := by simp; omega
  have kb := ((Below.refl w.heap.size w).alloc (Nat.le_refl _) (.cells C.toArray 30)).alloc (by simp) (.cells zV.toArray 30)
  obtain ⟨W, hW⟩ : ∃ W, (w.alloc (.cells C.toArray 30)).alloc (.cells zV.toArray 30) = W := ⟨_, rfl⟩
  rw [hW] at kb
  have HW := Lib.hid hW
  have KB := Lib.hid kb
  have HM := Lib.hid w_need_no
  clear he kb hW
  go_enter Try.func65, Try.ntmps65
  go_wp2_with (refine wpList_alloc_n rfl 30 rfl _ rfl zV.toArray (alloc_ver _) ?_; rw [HW.out])
  refine (HM.out _ _).mono ?_
  rintro e w2 ⟨rfl, rfl⟩
  exact ⟨rfl, rfl, (grown_below KB.out).but (some B)⟩
end Go.Proofs.Ytloogjdojojehaa
namespace Go.Proofs.Ytloogjdojojehaa
open Go.RowKit
set_option linter.unusedVariables false

theorem ver_facts {s t : List Nat} {v : VerH} (hs : Bys s) (h : verP s = .ok (v, t)) : VerOk v ∧ Bys t ∧ t.length ≤ s.length := by
  have hf := ver_codes.from_ s v t hs h
  have hl := congrArg List.length hf.2
  simp only [List.length_append] at hl
  exact ⟨hf.1, ver_codes.rest hs h, by omega⟩
set_option maxRecDepth 100000 in
set_option maxHeartbeats 2000000 in
theorem w_version (B : Nat) (s : List Nat) (w : World) (hB : Left w B s) (hs : Bys s) (hl : s.length ≤ 65536) :
    Calls Try.prog 46 #[.pointer (some ⟨B, 0, none⟩)] w (StP (verP s) (fun a w' v => VO w' w.heap.size v (rawOf a)) w B) := by
  obtain ⟨N, hN⟩ : ∃ N, w.heap.size = N := ⟨_, rfl⟩
  have k0 := Blk.newAt w N hN 30 (c := zV.toArray) zV rfl
  have b0 := (Below.refl w.heap.size w).alloc (Nat.le_refl _) (.cells zV.toArray 30)
  have z0 : (w.alloc (.cells zV.toArray 30)).heap.size = N + 1 := by simp [hN]
  obtain ⟨W1, hW1⟩ : ∃ W1, w.alloc (.cells zV.toArray 30) = W1 := ⟨_, rfl⟩
  rw [hW1] at k0 b0 z0
  have L1 := hB.keep b0
  have HR := Lib.hid (h_Read (tx s) (told (verP s)) W1 (by rw [tx_size]; exact hl) (by rw [sl_tx hs, tellA_is]))
  have c0 := L1.cell
  have hlt := hB.lt
  have LL := Lib.hid L1
  have K0 := Lib.hid k0
  have B0 := Lib.hid b0
  have HZ0 := Lib.hid z0
  have HLT := Lib.hid (show B < N by omega)
  have HN := Lib.hid hN
  have HW1 := Lib.hid hW1
  clear k0 b0 L1 hW1 z0 hlt hB hl hN
  cases hx : verP s with
  | error er =>
    have hn0 := nz_ver s er hx
    rw [hx] at HR
    have HT := Lib.hid (fun (C : List Value) wx => w_takeV_no B C ⟨#[]⟩ er wx hn0)
    clear hx hn0
    generalize tx s = S at *
    go_enter Try.func46, Try.ntmps46
    go_wp2_with (refine wpList_alloc_n rfl 30 rfl N HN.out zV.toArray (alloc_ver _) ?_; rw [HW1.out])
    refine HR.out.mono ?_
    rintro e w2 ⟨v, rfl, hv, b2⟩
    obtain ⟨C, rfl, hC, hC1⟩ := VO.cells hv
    obtain ⟨M, hM⟩ : ∃ M, w2.heap.size = M := ⟨_, rfl⟩
    have k2 := Blk.newAt w2 M hM 30 (c := zV.toArray) zV rfl
    have B2 := Lib.hid (B0.out.trans (b2.mono B0.out.size))
    have b3 := (Below.refl w2.heap.size w2).alloc (Nat.le_refl _) (.cells zV.toArray 30)
    have g3 := grown_belowN ((grown_below B2.out).but (some B)) (below_setRow b3 (show w2.heap.size ≤ M by omega) C.toArray)
    have K2 := Lib.hid k2
    have HM := Lib.hid hM
    have HC := Lib.hid hC
    have HC1 := Lib.hid hC1
    have K3 := Lib.hid (k2.row C (by rw [hC]; rfl))
    have G3 := Lib.hid g3
    clear hv b2 hC hC1 k2 b3 g3 hM c0
    rw [show (told (.error er : Except Nat (VerH × List Nat))).2.1 = [] from rfl, show (told (.error er : Except Nat (VerH × List Nat))).2.2 = er from rfl, tx_nil]
    go_wp2_with (first | (refine wpList_alloc_n rfl 30 rfl M HM.out zV.toArray (alloc_ver _) ?_) | (refine wpList_store_blk rfl 30 _ _ rfl M C rfl rfl K2.out (by rw [size_ver, HC.out]) (by rw [HC.out]; rfl) HC1.out ?_) | (refine wpList_load_blkW rfl 30 _ rfl M rfl K3.out Try.underlying30 rfl (by rw [size_ver, HC.out]) ?_))
    refine (HT.out _ _).mono ?_
    rintro e w4 ⟨rfl, g4⟩
    exact ⟨rfl, StP.no (G3.out.trans g4)⟩
  | ok x =>
    obtain ⟨a, t⟩ := x
    rw [hx] at HR
    have HT := Lib.hid (fun (C : List Value) hC h1 wx (h : Left wx B s) => w_takeV_ok B C hC h1 s t wx h)
    clear hx
    obtain ⟨S, hS⟩ : ∃ S, tx s = S := ⟨_, rfl⟩
    rw [hS] at c0 HR
    clear hS
    go_enter Try.func46, Try.ntmps46
    go_wp2_with (refine wpList_alloc_n rfl 30 rfl N HN.out zV.toArray (alloc_ver _) ?_; rw [HW1.out])
    refine HR.out.mono ?_
    rintro e w2 ⟨v, rfl, hv, b2⟩
    obtain ⟨C, rfl, hC, hC1⟩ := VO.cells hv
    obtain ⟨M, hM⟩ : ∃ M, w2.heap.size = M := ⟨_, rfl⟩
    have k2 := Blk.newAt w2 M hM 30 (c := zV.toArray) zV rfl
    have B2 := Lib.hid (B0.out.trans (b2.mono B0.out.size))
    have b3 := below_setRow ((Below.refl w2.heap.size w2).alloc (Nat.le_refl _) (.cells zV.toArray 30)) (show w2.heap.size ≤ M by omega) C.toArray
    have g3 := grown_belowN ((grown_below B2.out).but (some B)) b3
    have v3 := VO.keep hv b3
    have l3 := (LL.out.keep b2).keep b3
    have k3 := (K0.out.below b2 K0.out.lt).below b3 (K0.out.below b2 K0.out.lt).lt
    have K2 := Lib.hid k2
    have HM := Lib.hid hM
    have HC := Lib.hid hC
    have HC1 := Lib.hid hC1
    have K3 := Lib.hid (k2.row C (by rw [hC]; rfl))
    have G3 := Lib.hid g3
    have V3 := Lib.hid v3
    have L3 := Lib.hid l3
    have K03 := Lib.hid k3
    clear hv b2 hC hC1 k2 b3 g3 hM c0 v3 l3 k3
    rw [show (told (.ok (a, t))).2.1 = t from rfl, show (told (.ok (a, t))).2.2 = 0 from rfl]
    obtain ⟨T, hTT⟩ : ∃ T, tx t = T := ⟨_, rfl⟩
    rw [hTT] at HT ⊢
    clear hTT
    go_wp2_with (first | (refine wpList_alloc_n rfl 30 rfl M HM.out zV.toArray (alloc_ver _) ?_) | (refine wpList_store_blk rfl 30 _ _ rfl M C rfl rfl K2.out (by rw [size_ver, HC.out]) (by rw [HC.out]; rfl) HC1.out ?_) | (refine wpList_load_blkW rfl 30 _ rfl M rfl K3.out Try.underlying30 rfl (by rw [size_ver, HC.out]) ?_))
    refine (HT.out C HC.out HC1.out _ L3.out).mono ?_
    rintro e w4 ⟨rfl, g4, l4⟩
    have hNB : N ≠ B := by have := HLT.out; omega
    have K4 := Lib.hid (K03.out.grownO g4 (fun i e => by cases e; exact fun e' => hNB e'.symm))
    have hz0 := HZ0.out
    have V5 : Hid (VO (w4.setRow N C.toArray) w.heap.size (.agg C.toArray) (rawOf a)) := Lib.hid (((V3.out.but g4 (by have := HLT.out; omega)).row (show N < W1.heap.size by omega) C.toArray).lower (by have := HN.out; omega))
    have G5 := Lib.hid (grown_setRowN (G3.out.trans g4) (show w.heap.size ≤ N by have := HN.out; omega) C.toArray)
    have L5 := Lib.hid (l4.rowOther (fun e => hNB e) C.toArray)
    clear g4 l4 hNB hz0
    go_wp2_with (refine wpList_store_blk rfl 30 _ _ rfl N C rfl rfl K4.out (by rw [size_ver, HC.out]) (by rw [HC.out]; rfl) HC1.out ?_)
    refine bodyPost_ret (v := .agg C.toArray) (results_cell_blk rfl _ _ _ rfl (K4.out.row C (by rw [HC.out]; rfl)) Try.underlying30 rfl (by rw [size_ver, HC.out])) rfl (StP.ok G5.out V5.out L5.out)
end Go.Proofs.Ytloogjdojojehaa
namespace Go.Proofs.Ytloogjdojojehaa
open Go.RowKit
set_option linter.unusedVariables false

theorem size_hash18 : (Try.prog.info? 34).map (·.size) = some 32 := by kernel_rfl
theorem alloc_hash18 (w : World) : (Instr.alloc 34 true (.tuple #[])).run Try.prog w = .ok (.pointer (some ⟨w.heap.size, 0, none⟩)) (w.alloc (.cells (ints .u8 (nn (zerN 32))).toArray 34)) := by kernel_rfl
theorem raw_facts {s h t : List Nat} {n : Nat} (hs : Bys s) (e : rawP n s = .ok (h, t)) : h = s.take n ∧ t = s.drop n ∧ n ≤ s.length ∧ h.length = n ∧ Bys h ∧ Bys t ∧ t.length ≤ s.length := by
  unfold rawP at e
  split at e
  · cases e
  · rename_i hlt
    cases e
    exact ⟨rfl, rfl, by omega, by rw [List.length_take]; omega, hs.take _, hs.drop _, by rw [List.length_drop]; omega⟩
/-- the world while the hash is copied -/
def hsCw (w3 : World) (H : Nat) (R : List Value) (b : Bool) (W : World) : Prop := ∃ m, W = (if b then w3.setRow H R.toArray else w3).drewN m
/-- what the region's operations come to -/
def hsW (B H : Nat) (S T : ByteArray) : Nat → Value
  | 0 | 1 | 2 | 3 | 6 | 7 | 8 | 12 | 13 => .pointer (some ⟨B, 0, none⟩)
  | 4 | 9 => .string S
  | 5 => .slice (some ⟨H, 0, none⟩) 32 32
  | 10 => .int .i64 32
  | 11 => .string T
  | _ => undef
set_option maxRecDepth 100000 in
set_option maxHeartbeats 4000000 in
theorem w_hash (B : Nat) (s : List Nat) (w : World) (hB : Left w B s) (hs : Bys s) (hl : s.length ≤ 65536) :
    Calls Try.prog 54 #[.pointer (some ⟨B, 0, none⟩)] w (StP (rawP 32 s) (fun h _ v => v = .agg (ints .u8 (nn h)).toArray) w B) := by
  obtain ⟨N, hN⟩ : ∃ N, w.heap.size = N := ⟨_, rfl⟩
  obtain ⟨Z, hZ⟩ : ∃ Z, ints .u8 (nn (zerN 32)) = Z := ⟨_, rfl⟩
  have hZl : Z.length = 32 := by rw [← hZ, ints_length, nn_length, zerN_len]
  have hal := alloc_hash18
  rw [hZ] at hal
  have k0 := (Blk.newAt w N hN 34 (c := Z.toArray) Z rfl).alloc (.cells Z.toArray 34)
  have k1 := Blk.newAt (w.alloc (.cells Z.toArray 34)) (N + 1) (by simp [hN]) 34 (c := Z.toArray) Z rfl
  have kb := ((Below.refl w.heap.size w).alloc (Nat.le_refl _) (.cells Z.toArray 34)).alloc (by simp) (.cells Z.toArray 34)
  obtain ⟨W, hW⟩ : ∃ W, (w.alloc (.cells Z.toArray 34)).alloc (.cells Z.toArray 34) = W := ⟨_, rfl⟩
  have HZ1 : Hid (∀ wx : World, wx = w.alloc (.cells Z.toArray 34) → wx.heap.size = N + 1) := Lib.hid fun wx e => by rw [e]; simp [hN]
  rw [hW] at k0 k1 kb
  have L := hB.keep kb
  have hlt := hB.lt
  have LL := Lib.hid L
  have HLT := Lib.hid (show B < N by omega)
  have K0 := Lib.hid k0
  have K1 := Lib.hid k1
  have KB := Lib.hid kb
  have HAL := Lib.hid hal
  have HN := Lib.hid hN
  have HW := Lib.hid hW
  have HZL := Lib.hid hZl
  have HBS := Lib.hid hs
  have c0 := L.cell
  have hsz : (tx s).size = s.length := tx_size s
  obtain ⟨n, hn⟩ : ∃ n, s.length = n := ⟨_, rfl⟩
  rw [hn] at hsz
  clear k0 k1 kb hal hN hW L hlt hZ hZl hs hB
  by_cases h32 : n < 32
  · have hx : rawP 32 s = .error 40 := by unfold rawP; rw [if_pos (by omega)]
    rw [hx]
    have g0 : ¬ (32 : Int) ≤ (n : Int) := by omega
    have g1 : decide ((32 : Int) ≤ (n : Int)) = false := decide_eq_false g0
    have HM : Hid (∀ wx, Calls Try.prog 28 #[.bool false, .int .i64 40] wx fun e w' => e = DiedW 40 ∧ w' = wx) := Lib.hid (w_need_no 40)
    clear hx h32 hl hn
    generalize tx s = S at *
    go_enter Try.func54, Try.ntmps54
    go_wp2_with (first | (refine wpList_alloc_n rfl 34 rfl (N + 1) (HZ1.out _ rfl) Z.toArray (HAL.out _) ?_; rw [HW.out]) | (refine wpList_alloc_n rfl 34 rfl N HN.out Z.toArray (HAL.out _) ?_))
    refine (HM.out _).mono ?_
    rintro e w3 ⟨rfl, rfl⟩
    exact ⟨rfl, StP.no ((grown_below KB.out).but (some B))⟩
  · have hx : rawP 32 s = .ok (s.take 32, s.drop 32) := by unfold rawP; rw [if_neg (by omega)]
    rw [hx]
    have g0 : (32 : Int) ≤ (n : Int) := by omega
    have g1 : decide ((32 : Int) ≤ (n : Int)) = true := decide_eq_true g0
    have hex : (tx s).extract 32 (tx s).size = tx (s.drop 32) := by rw [tail_tx, sl_tx HBS.out]
    have his : ints .u8 ((is (tx s)).take 32) = ints .u8 (nn (s.take 32)) := by rw [is_sl, sl_tx HBS.out]; unfold nn; rw [List.map_take]
    have HIS := Lib.hid his
    have HTL : Hid ((s.take 32).length = 32) := Lib.hid (by rw [List.length_take]; omega)
    have hs64 : (n : Int) ≤ 65536 := by omega
    have HM := Lib.hid w_need_ok
    clear hx h32 hl hn his
    obtain ⟨S, hS⟩ : ∃ S, tx s = S := ⟨_, rfl⟩
    obtain ⟨T, hT⟩ : ∃ T, tx (s.drop 32) = T := ⟨_, rfl⟩
    rw [hS] at c0 hsz hex HIS
    rw [hT] at hex
    have HSS := Lib.hid hS
    have HTT := Lib.hid hT
    have HSZ := Lib.hid hsz
    have HEX := Lib.hid hex
    obtain ⟨R, hR⟩ : ∃ R, ints .u8 (nn (s.take 32)) = R := ⟨_, rfl⟩
    rw [hR] at HIS
    have HRL : Hid (R.length = 32) := Lib.hid (by rw [← hR, ints_length, nn_length, HTL.out])
    have HRR := Lib.hid hR
    have HRO : Hid (R.toArray.all (·.oneCell') = true) := Lib.hid (by rw [← hR]; exact ints_one _ _)
    clear hS hT hR
    go_enter Try.func54, Try.ntmps54
    go_wp2_with (first | (refine wpList_alloc_n rfl 34 rfl (N + 1) (HZ1.out _ rfl) Z.toArray (HAL.out _) ?_; rw [HW.out]) | (refine wpList_alloc_n rfl 34 rfl N HN.out Z.toArray (HAL.out _) ?_))
    refine (HM.out _ _).mono ?_
    rintro e w3 ⟨rfl, rfl⟩
    go_wp2_with fail
    refine region_mix 10 14 (by decide) mixed (by kernel_rfl) (by kernel_rfl) (fun u => #[_, _, _, _, _, _, _, _, _, _, _, u 0, u 1, u 2, u 3, u 4, u 5, u 6, u 7, u 8, u 9, u 10, u 11, u 12, u 13, _]) [] (fun i => undef) rfl
      (hsCw w3 (N + 1) R) (⟨1, rfl⟩) (fun _ W W' => True) (fun i v _ => v = hsW B (N + 1) S T i) ?mono ?step ?one ?last
    case mono => exact fun bb i v W W' _ h hk => h
    case step =>
      intro bb u W j op hj hjk _ ho hC hd
      have cB : W.cell? ⟨B, 0, none⟩ = some (.string S) := by
        have hC' := hC
        obtain ⟨m, rfl⟩ := hC'
        have := HLT.out
        cases bb
        · exact c0
        · have := (LL.out.rowOther (show N + 1 ≠ B by omega) R.toArray).cell
          rw [HSS.out] at this
          exact this
      have hsz := HSZ.out
      have hex : S.extract 32 n = T := by rw [← HSZ.out]; exact HEX.out
      rcases j with _ | _ | _ | _ | _ | _ | _ | _ | _ | _ | _ | _ | _ | _ | j
      all_goals try (simp only [List.getElem?_cons_zero, List.getElem?_cons_succ, Option.some.injEq] at ho; subst ho)
      · go_wp2_with fail
        exact ⟨_, rfl, rfl, hC, trivial⟩
      · go_wp2_with fail
        exact ⟨_, rfl, rfl, hC, trivial⟩
      · have h1 : u 1 = .pointer (some ⟨B, 0, none⟩) := hd ⟨1, .data⟩ (by simp) rfl
        rw [h1]
        go_wp2_with fail
        exact ⟨.pointer (some ⟨B, 0, none⟩), by first | (simp [upd, h1]; done) | (simp [upd, h1]; rfl) | (simp [upd, h1, ← hex]; done), rfl, hC, trivial⟩
      · have h1 : u 2 = .pointer (some ⟨B, 0, none⟩) := hd ⟨2, .data⟩ (by simp) rfl
        rw [h1]
        go_wp2_with fail
        exact ⟨.pointer (some ⟨B, 0, none⟩), by first | (simp [upd, h1]; done) | (simp [upd, h1]; rfl) | (simp [upd, h1, ← hex]; done), rfl, hC, trivial⟩
      · have h1 : u 3 = .pointer (some ⟨B, 0, none⟩) := hd ⟨3, .data⟩ (by simp) rfl
        rw [h1]
        go_wp2_with fail
        exact ⟨.string S, by first | (simp [upd, h1]; done) | (simp [upd, h1]; rfl) | (simp [upd, h1, ← hex]; done), rfl, hC, trivial⟩
      · go_wp2_with fail
        exact ⟨_, rfl, rfl, hC, trivial⟩
      · go_wp2_with fail
        exact ⟨_, rfl, rfl, hC, trivial⟩
      · have h1 : u 6 = .pointer (some ⟨B, 0, none⟩) := hd ⟨6, .data⟩ (by simp) rfl
        rw [h1]
        go_wp2_with fail
        exact ⟨.pointer (some ⟨B, 0, none⟩), by first | (simp [upd, h1]; done) | (simp [upd, h1]; rfl) | (simp [upd, h1, ← hex]; done), rfl, hC, trivial⟩
      · have h1 : u 7 = .pointer (some ⟨B, 0, none⟩) := hd ⟨7, .data⟩ (by simp) rfl
        rw [h1]
        go_wp2_with fail
        exact ⟨.pointer (some ⟨B, 0, none⟩), by first | (simp [upd, h1]; done) | (simp [upd, h1]; rfl) | (simp [upd, h1, ← hex]; done), rfl, hC, trivial⟩
      · have h1 : u 8 = .pointer (some ⟨B, 0, none⟩) := hd ⟨8, .data⟩ (by simp) rfl
        rw [h1]
        go_wp2_with fail
        exact ⟨.string S, by first | (simp [upd, h1]; done) | (simp [upd, h1]; rfl) | (simp [upd, h1, ← hex]; done), rfl, hC, trivial⟩
      · omega
      · have h1 : u 4 = .string S := hd ⟨4, .data⟩ (by simp) rfl
        have h2 : u 10 = .int .i64 32 := hd ⟨10, .data⟩ (by simp) rfl
        rw [h1, h2]
        go_wp2_with fail
        exact ⟨.string T, by first | (simp [upd, h1, h2]; done) | (simp [upd, h1, h2]; rfl) | (simp [upd, h1, h2, hex]; done), rfl, hC, trivial⟩
      · have h1 : u 0 = .pointer (some ⟨B, 0, none⟩) := hd ⟨0, .data⟩ (by simp) rfl
        rw [h1]
        go_wp2_with fail
        exact ⟨.pointer (some ⟨B, 0, none⟩), by first | (simp [upd, h1]; done) | (simp [upd, h1]; rfl) | (simp [upd, h1, ← hex]; done), rfl, hC, trivial⟩
      · have h1 : u 12 = .pointer (some ⟨B, 0, none⟩) := hd ⟨12, .data⟩ (by simp) rfl
        rw [h1]
        go_wp2_with fail
        exact ⟨.pointer (some ⟨B, 0, none⟩), by first | (simp [upd, h1]; done) | (simp [upd, h1]; rfl) | (simp [upd, h1, ← hex]; done), rfl, hC, trivial⟩
      · omega
    case one =>
      intro u W op ho hC hd
      simp only [List.getElem?_cons_zero, List.getElem?_cons_succ, Option.some.injEq] at ho
      subst ho
      have h5 : u 5 = .slice (some ⟨N + 1, 0, none⟩) 32 32 := hd ⟨5, .data⟩ (by simp) rfl
      have h9 : u 9 = .string S := hd ⟨9, .data⟩ (by simp) rfl
      obtain ⟨m, rfl⟩ := hC
      rw [h5, h9]
      have kz : Blk (w3.drewN m) (N + 1) 34 Z := K1.out
      go_wp2_with (refine wpList_copy_part rfl _ _ _ _ 5 rfl (N + 1) 0 32 32 rfl S rfl kz R [] Z [] (by simp) (by rw [HIS.out]; simp) Try.underlying60 (by kernel_rfl) (by rw [HSZ.out]; omega) rfl HZL.out.symm ?_)
      exact ⟨.int .i64 32, by first | (simp [upd, h5, h9]; done) | (simp [upd, h5, h9]; rfl), rfl, ⟨m, rfl⟩, trivial⟩
    case last =>
      intro u W op ho hC hS
      simp only [List.getElem?_cons_zero, List.getElem?_cons_succ, Option.some.injEq] at ho
      subst ho
      obtain ⟨m, rfl⟩ := hC
      have h13 : u 13 = .pointer (some ⟨B, 0, none⟩) := hS 13 (by decide)
      have h11 : u 11 = .string T := hS 11 (by decide)
      rw [h13, h11]
      have hlt := HLT.out
      have L4 : Left ((w3.setRow (N + 1) R.toArray).drewN m) B s := LL.out.rowOther (show N + 1 ≠ B by omega) R.toArray
      have k4 : Blk ((w3.setRow (N + 1) R.toArray).drewN m) (N + 1) 34 R := K1.out.row R (by rw [HRL.out, HZL.out])
      have k5 : Blk ((w3.setRow (N + 1) R.toArray).drewN m) N 34 Z := K0.out.rowOther (show N ≠ N + 1 by omega) R.toArray
      have G4 : w.grownBy ((w3.setRow (N + 1) R.toArray).drewN m) (some B) := by
        have := grown_setRowN ((grown_below KB.out).but (some B)) (show w.heap.size ≤ N + 1 by have := HN.out; omega) R.toArray
        exact ⟨this.os, this.tape, this.output, this.size, this.block⟩
      obtain ⟨W4, hW4⟩ : ∃ W4, (w3.setRow (N + 1) R.toArray).drewN m = W4 := ⟨_, rfl⟩
      simp only [if_true] at *
      rw [hW4] at L4 k4 k5 G4 ⊢
      have c4 := L4.cell
      have f4 := L4.free
      have K4 := Lib.hid (k4.other (a := ⟨B, 0, none⟩) (show B ≠ N + 1 by omega) (.string T))
      have K5 := Lib.hid (k5.other (a := ⟨B, 0, none⟩) (show B ≠ N by omega) (.string T))
      have L5 := L4.put (s.drop 32)
      rw [HTT.out] at L5
      have L6 := Lib.hid (L5.rowOther (show N ≠ B by omega) R.toArray)
      have G6 := Lib.hid (grown_setRowN (G4.trans (grown_setCell W4 ⟨B, 0, none⟩ (.string T))) (show w.heap.size ≤ N by have := HN.out; omega) R.toArray)
      clear hS L4 k4 k5 G4 L5 h11 h13 hW4 hlt c0
      go_wp2_with (first | (refine wpList_load_blkW rfl 34 _ rfl (N + 1) rfl K4.out Try.underlying34 rfl (by rw [size_hash18, HRL.out]) ?_) | (refine wpList_store_blk rfl 34 _ _ rfl N R rfl rfl K5.out (by rw [size_hash18, HRL.out]) (by rw [HZL.out, HRL.out]) HRO.out ?_))
      refine bodyPost_ret (v := .agg R.toArray) (results_cell_blk rfl _ _ _ rfl (K5.out.row R (by rw [HZL.out, HRL.out])) Try.underlying34 rfl (by rw [size_hash18, HRL.out])) rfl (StP.ok G6.out (congrArg (fun x : List Value => Value.agg x.toArray) HRR.out.symm) L6.out)
end Go.Proofs.Ytloogjdojojehaa
namespace Go.Proofs.Ytloogjdojojehaa
open Go.RowKit
set_option linter.unusedVariables false

/-- a function that began in the world w has a result's variable N, and a variable M that it fills; the reader B has s left -/
structure RdW (w : World) (B : Nat) (ty : TypeId) (zs : List Value) (w2 : World) (s : List Nat) (cs : List Value) : Prop where
  gr : w.grownBy w2 (some B)
  lf : Left w2 B s
  kn : Blk w2 w.heap.size ty zs
  km : Blk w2 (w.heap.size + 1) ty cs
  lt : B < w.heap.size
section
variable {w w2 w3 : World} {B : Nat} {ty : TypeId} {zs cs : List Value} {s t : List Nat}
theorem RdW.start (hB : Left w B s) (ty : TypeId) (zs : List Value) : RdW w B ty zs ((w.alloc (.cells zs.toArray ty)).alloc (.cells zs.toArray ty)) s zs := by
  have kb := ((Below.refl w.heap.size w).alloc (Nat.le_refl _) (.cells zs.toArray ty)).alloc (by simp) (.cells zs.toArray ty)
  exact ⟨(grown_below kb).but (some B), hB.keep kb, (Blk.newAt w _ rfl ty zs rfl).alloc _, Blk.newAt _ _ (by simp) ty zs rfl, hB.lt⟩
theorem RdW.step (h : RdW w B ty zs w2 s cs) (hg : w2.grownBy w3 (some B)) (hL : Left w3 B t) : RdW w B ty zs w3 t cs := by
  have := h.lt
  exact ⟨h.gr.trans hg, hL, h.kn.grownO hg (fun i e => by cases e; omega), h.km.grownO hg (fun i e => by cases e; omega), h.lt⟩
theorem RdW.call (h : RdW w B ty zs w2 s cs) (hb : Below w2.heap.size w2 w3) : RdW w B ty zs w3 s cs :=
  h.step ((grown_below hb).but (some B)) (h.lf.keep hb)
theorem RdW.put (h : RdW w B ty zs w2 s cs) (j : Nat) (v : Value) : RdW w B ty zs (w2.setCell ⟨w.heap.size + 1, j, none⟩ v) s (cs.set j v) := by
  have := h.lt
  exact ⟨grown_setCellN h.gr (Nat.le_succ _) j v, h.lf.other (by omega) j v, h.kn.other (a := ⟨w.heap.size + 1, j, none⟩) (by show w.heap.size + 1 ≠ w.heap.size; omega) v, h.km.set j v, h.lt⟩
theorem RdW.part {x y y' z : List Value} (h : RdW w B ty zs w2 s (x ++ (y ++ z))) (hl : y.length = y'.length) : RdW w B ty zs (w2.setCells (w.heap.size + 1) x.length y') s (x ++ (y' ++ z)) := by
  have := h.lt
  exact ⟨grown_setCellsN (Nat.le_succ _) y' _ _ h.gr, h.lf.cellsOther (by omega) y' _, setCells_otherB (by omega) y' _ _ h.kn, setCells_part y y' x z _ h.km hl, h.lt⟩
theorem RdW.cell (h : RdW w B ty zs w2 s cs) {j : Nat} {v : Value} (hv : cs[j]? = some v) : w2.cell? ⟨w.heap.size + 1, j, none⟩ = some v := h.km.cellOf hv
theorem RdW.free (h : RdW w B ty zs w2 s cs) (j : Nat) : w2.frozen? ⟨w.heap.size + 1, j, none⟩ = false := h.km.free j
theorem RdW.fin (h : RdW w B ty zs w2 s cs) (vs : Array Value) : w.grownBy (w2.setRow w.heap.size vs) (some B) ∧ Left (w2.setRow w.heap.size vs) B s := by
  have := h.lt
  exact ⟨grown_setRowN h.gr (Nat.le_refl _) vs, h.lf.rowOther (by omega) vs⟩
theorem RdW.size (h : RdW w B ty zs w2 s cs) : w.heap.size + 2 ≤ w2.heap.size := h.km.lt
end
/-- a request whose version's slices are the call's own -/
def QO (w : World) (base : Nat) (v : Value) (r : ReqU RawV) : Prop := ∃ q, v = .agg (cellsQ r.client r.seq (cellsO r.kind r.id q)).toArray ∧ VO w base (.agg q.toArray) r.ver
section
variable {w w' : World} {base : Nat} {v : Value} {r : ReqU RawV}
theorem QO.told (h : QO w base v r) : ReqTold w v r := by
  obtain ⟨q, e, h⟩ := h
  exact ⟨q, e, h.vv⟩
theorem QO.keep (h : QO w base v r) (hb : Below w.heap.size w w') : QO w' base v r := by
  obtain ⟨q, e, h⟩ := h
  exact ⟨q, e, h.keep hb⟩
theorem QO.but {B : Nat} (h : QO w base v r) (hg : w.grownBy w' (some B)) (hB : B < base) : QO w' base v r := by
  obtain ⟨q, e, h⟩ := h
  exact ⟨q, e, h.but hg hB⟩
theorem QO.lower (h : QO w base v r) {base' : Nat} (hb : base' ≤ base) : QO w base' v r := by
  obtain ⟨q, e, h⟩ := h
  exact ⟨q, e, h.lower hb⟩
theorem QO.row (h : QO w base v r) {b : Nat} (hr : b < base) (cs : Array Value) : QO (w.setRow b cs) base v r := by
  obtain ⟨q, e, h⟩ := h
  exact ⟨q, e, h.row hr cs⟩
theorem QO.cells (h : QO w base v r) : ∃ R : List Value, v = .agg R.toArray ∧ R.length = 8 ∧ R.toArray.all (·.oneCell') = true := by
  obtain ⟨q, rfl, h⟩ := h
  obtain ⟨pb, cb, pn, cn, pz, cz, rfl⟩ := h.vv.row
  exact ⟨_, rfl, rfl, by simp [cellsQ, cellsO, cellsV, Value.oneCell']⟩
end
def zQ : List Value := cellsQ 0 0 (cellsO 0 0 zV)
theorem alloc_req (w : World) : (Instr.alloc 40 true (.tuple #[])).run Try.prog w = .ok (.pointer (some ⟨w.heap.size, 0, none⟩)) (w.alloc (.cells zQ.toArray 40)) := by kernel_rfl
end Go.Proofs.Ytloogjdojojehaa
namespace Go.Proofs.Ytloogjdojojehaa
open Go.RowKit
set_option linter.unusedVariables false

set_option maxRecDepth 100000 in
set_option maxHeartbeats 4000000 in
theorem w_request (B : Nat) (s0 : List Nat) (w : World) (hB : Left w B s0) (hs : Bys s0) (hl : s0.length ≤ 65536) :
    Calls Try.prog 22 #[.pointer (some ⟨B, 0, none⟩)] w (StP (reqP s0) (fun a w' v => QO w' w.heap.size v (reqU a)) w B) := by
  obtain ⟨X, hX⟩ : ∃ X, reqP s0 = X := ⟨_, rfl⟩
  rw [hX]
  rw [reqP_is] at hX
  unfold getN at hX
  have HX0 := Lib.hid hX
  have r0 := RdW.start hB 40 zQ
  have HZ : Hid ((w.alloc (.cells zQ.toArray 40)).heap.size = w.heap.size + 1) := Lib.hid (by simp)
  obtain ⟨w0, hW⟩ : ∃ w0, (w.alloc (.cells zQ.toArray 40)).alloc (.cells zQ.toArray 40) = w0 := ⟨_, rfl⟩
  rw [hW] at r0
  have R0 := Lib.hid r0
  have HW := Lib.hid hW
  have S0 := Lib.hid hs
  have L0 := Lib.hid hl
  have HOK := Lib.hid w_need_ok
  have HNO := Lib.hid w_need_no
  have HN0 : Hid (Calls Try.prog 43 #[.pointer (some ⟨B, 0, none⟩), .int .i64 1] w0 (StP (fixP 1 s0) (fun n _ v => v = .int .i64 (n : Int)) w0 B)) := Lib.hid (w_numI B 1 s0 w0 r0.lf hs hl (by decide) (by decide))
  clear hB hX r0 hW hs hl
  go_enter Try.func22, Try.ntmps22
  go_wp2_with (first | (refine wpList_alloc_n rfl 40 rfl (w.heap.size + 1) HZ.out zQ.toArray (alloc_req _) ?_; rw [HW.out]) | (refine wpList_alloc_n rfl 40 rfl w.heap.size rfl zQ.toArray (alloc_req _) ?_))
  refine HN0.out.mono ?_
  rintro e w1 ⟨hg, hok, hno⟩
  rcases hx : fixP 1 s0 with er | ⟨c, s1⟩
  · obtain rfl := hno er hx
    have q := HX0.out
    rw [hx, then_err] at q
    subst q
    exact ⟨rfl, StP.no (R0.out.gr.trans hg)⟩
  obtain ⟨v, rfl, rfl, hL⟩ := hok c s1 hx
  have q := HX0.out
  rw [hx, then_ok] at q
  have HX0' := Lib.hid q
  have r1 := R0.out.step hg hL
  have F0 := Lib.hid (fix_facts S0.out hx)
  have S1 := Lib.hid F0.out.2.1
  have L1 : Hid (s1.length ≤ 65536) := Lib.hid (Nat.le_trans F0.out.2.2 L0.out)
  have c0 := r1.cell (j := 0) rfl
  have f0 := r1.free 0
  have r2 := r1.put 0 (.int .i64 (c : Int))
  have R1 : Hid (RdW w B 40 zQ (w1.setCell ⟨w.heap.size + 1, 0, none⟩ (.int .i64 (c : Int))) s1 (cellsQ (c : Int) 0 (cellsO 0 0 zV))) := Lib.hid r2
  have d0 := r2.cell (j := 0) rfl
  clear q r1 r2 hg hok hno hx hL HN0
  have HN1 : Hid (Calls Try.prog 44 #[.pointer (some ⟨B, 0, none⟩), .int .i64 4] (w1.setCell ⟨w.heap.size + 1, 0, none⟩ (.int .i64 (c : Int))) (StP (fixP 4 s1) (fun n _ v => v = .int .u32 (n : Int)) (w1.setCell ⟨w.heap.size + 1, 0, none⟩ (.int .i64 (c : Int))) B)) := Lib.hid (w_numU B 4 s1 _ R1.out.lf S1.out L1.out (by decide) (by decide))
  by_cases ht : c < 3
  case neg =>
    have q := HX0'.out
    rw [if_neg ht] at q
    subst q
    have HC := Lib.hid (fun wx => w_client (c : Int) false wx (decide_eq_false (by omega)))
    clear ht
    go_wp2_with fail
    refine (HC.out _).mono ?_
    rintro e wx ⟨rfl, rfl⟩
    go_wp2_with fail
    refine (HNO.out 1 _).mono ?_
    rintro e wx ⟨rfl, rfl⟩
    exact ⟨rfl, StP.no R1.out.gr⟩
  have q := HX0'.out
  rw [if_pos ht] at q
  have HX1 := Lib.hid q
  have HC := Lib.hid (fun wx => w_client (c : Int) true wx (decide_eq_true (by omega)))
  have T0 := Lib.hid ht
  clear q ht HX0'
  go_wp2_with fail
  refine (HC.out _).mono ?_
  rintro e wx ⟨rfl, rfl⟩
  go_wp2_with fail
  refine (HOK.out _ _).mono ?_
  rintro e wx ⟨rfl, rfl⟩
  clear HC
  go_wp2_with fail
  refine HN1.out.mono ?_
  rintro e w2 ⟨hg, hok, hno⟩
  rcases hx : fixP 4 s1 with er | ⟨q0, s2⟩
  · obtain rfl := hno er hx
    have q := HX1.out
    rw [hx, then_err] at q
    subst q
    exact ⟨rfl, StP.no (R1.out.gr.trans hg)⟩
  obtain ⟨v, rfl, rfl, hL⟩ := hok q0 s2 hx
  have q := HX1.out
  rw [hx, then_ok] at q
  have HX1' := Lib.hid q
  have r1 := R1.out.step hg hL
  have F1 := Lib.hid (fix_facts S1.out hx)
  have S2 := Lib.hid F1.out.2.1
  have L2 : Hid (s2.length ≤ 65536) := Lib.hid (Nat.le_trans F1.out.2.2 L1.out)
  have c1 := r1.cell (j := 1) rfl
  have f1 := r1.free 1
  have r2 := r1.put 1 (.int .u32 (q0 : Int))
  have R2 : Hid (RdW w B 40 zQ (w2.setCell ⟨w.heap.size + 1, 1, none⟩ (.int .u32 (q0 : Int))) s2 (cellsQ (c : Int) q0 (cellsO 0 0 zV))) := Lib.hid r2
  have d1 := r2.cell (j := 1) rfl
  clear q r1 r2 hg hok hno hx hL HN1
  have HN2 : Hid (Calls Try.prog 43 #[.pointer (some ⟨B, 0, none⟩), .int .i64 1] (w2.setCell ⟨w.heap.size + 1, 1, none⟩ (.int .u32 (q0 : Int))) (StP (fixP 1 s2) (fun n _ v => v = .int .i64 (n : Int)) (w2.setCell ⟨w.heap.size + 1, 1, none⟩ (.int .u32 (q0 : Int))) B)) := Lib.hid (w_numI B 1 s2 _ R2.out.lf S2.out L2.out (by decide) (by decide))
  have HX2 := HX1'
  clear HX1' c0 f0 d0
  go_wp2_with fail
  refine HN2.out.mono ?_
  rintro e w3 ⟨hg, hok, hno⟩
  rcases hx : fixP 1 s2 with er | ⟨k, s3⟩
  · obtain rfl := hno er hx
    have q := HX2.out
    rw [hx, then_err] at q
    subst q
    exact ⟨rfl, StP.no (R2.out.gr.trans hg)⟩
  obtain ⟨v, rfl, rfl, hL⟩ := hok k s3 hx
  have q := HX2.out
  rw [hx, then_ok] at q
  have HX2' := Lib.hid q
  have r1 := R2.out.step hg hL
  have F2 := Lib.hid (fix_facts S2.out hx)
  have S3 := Lib.hid F2.out.2.1
  have L3 : Hid (s3.length ≤ 65536) := Lib.hid (Nat.le_trans F2.out.2.2 L2.out)
  have c2 := r1.cell (j := 2) rfl
  have f2 := r1.free 2
  have r2 := r1.put 2 (.int .i64 (k : Int))
  have R3 : Hid (RdW w B 40 zQ (w3.setCell ⟨w.heap.size + 1, 2, none⟩ (.int .i64 (k : Int))) s3 (cellsQ (c : Int) q0 (cellsO (k : Int) 0 zV))) := Lib.hid r2
  have d2 := r2.cell (j := 2) rfl
  clear q r1 r2 hg hok hno hx hL HN2
  have HN3 : Hid (Calls Try.prog 45 #[.pointer (some ⟨B, 0, none⟩)] (w3.setCell ⟨w.heap.size + 1, 2, none⟩ (.int .i64 (k : Int))) (StP (fixP 4 s3) (fun n _ v => v = .int .u32 (n : Int)) (w3.setCell ⟨w.heap.size + 1, 2, none⟩ (.int .i64 (k : Int))) B)) := Lib.hid (w_id B s3 _ R3.out.lf S3.out L3.out)
  clear c1 f1 d1
  by_cases ht : 1 ≤ k ∧ k ≤ 5
  case neg =>
    have q := HX2'.out
    rw [if_neg ht] at q
    subst q
    have HC := Lib.hid (fun wx => w_opKind (k : Int) false wx (decide_eq_false (by omega)))
    clear ht
    go_wp2_with fail
    refine (HC.out _).mono ?_
    rintro e wx ⟨rfl, rfl⟩
    go_wp2_with fail
    refine (HNO.out 1 _).mono ?_
    rintro e wx ⟨rfl, rfl⟩
    exact ⟨rfl, StP.no R3.out.gr⟩
  have q := HX2'.out
  rw [if_pos ht] at q
  have HX3 := Lib.hid q
  have HC := Lib.hid (fun wx => w_opKind (k : Int) true wx (decide_eq_true (by omega)))
  have T2 := Lib.hid ht
  clear q ht HX2'
  go_wp2_with fail
  refine (HC.out _).mono ?_
  rintro e wx ⟨rfl, rfl⟩
  go_wp2_with fail
  refine (HOK.out _ _).mono ?_
  rintro e wx ⟨rfl, rfl⟩
  clear HC
  go_wp2_with fail
  refine HN3.out.mono ?_
  rintro e w4 ⟨hg, hok, hno⟩
  rcases hx : fixP 4 s3 with er | ⟨i, s4⟩
  · obtain rfl := hno er hx
    have q := HX3.out
    rw [hx, then_err] at q
    subst q
    exact ⟨rfl, StP.no (R3.out.gr.trans hg)⟩
  obtain ⟨v, rfl, rfl, hL⟩ := hok i s4 hx
  have q := HX3.out
  rw [hx, then_ok] at q
  have HX3' := Lib.hid q
  have r1 := R3.out.step hg hL
  have F3 := Lib.hid (fix_facts S3.out hx)
  have S4 := Lib.hid F3.out.2.1
  have L4 : Hid (s4.length ≤ 65536) := Lib.hid (Nat.le_trans F3.out.2.2 L3.out)
  have c3 := r1.cell (j := 3) rfl
  have f3 := r1.free 3
  have r2 := r1.put 3 (.int .u32 (i : Int))
  have R4 : Hid (RdW w B 40 zQ (w4.setCell ⟨w.heap.size + 1, 3, none⟩ (.int .u32 (i : Int))) s4 (cellsQ (c : Int) q0 (cellsO (k : Int) i zV))) := Lib.hid r2
  have d3 := r2.cell (j := 3) rfl
  clear q r1 r2 hg hok hno hx hL HN3
  have HX4 := HX3'
  have d2 : (w4.setCell ⟨w.heap.size + 1, 3, none⟩ (.int .u32 (i : Int))).cell? ⟨w.heap.size + 1, 2, none⟩ = some (.int .i64 (k : Int)) := R4.out.cell (j := 2) rfl
  clear HX3' c2 f2
  by_cases hk : k = 1
  · have q := HX4.out
    rw [if_pos hk] at q
    have HX4b := Lib.hid q
    rw [show (k : Int) = 1 by omega] at d2
    have HKK := Lib.hid hk
    clear q hk HX4
    have HV : Hid (Calls Try.prog 46 #[.pointer (some ⟨B, 0, none⟩)] (w4.setCell ⟨w.heap.size + 1, 3, none⟩ (.int .u32 (i : Int))) (StP (verP s4) (fun a w' v => VO w' (w4.setCell ⟨w.heap.size + 1, 3, none⟩ (.int .u32 (i : Int))).heap.size v (rawOf a)) (w4.setCell ⟨w.heap.size + 1, 3, none⟩ (.int .u32 (i : Int))) B)) := Lib.hid (w_version B s4 _ R4.out.lf S4.out L4.out)
    go_wp2_with (first | (go_skip) | fail)
    refine HV.out.mono ?_
    rintro e w5 ⟨hg, hok, hno⟩
    rcases hx : verP s4 with er | ⟨a, s5⟩
    · obtain rfl := hno er hx
      have q := HX4b.out
      rw [hx, then_err] at q
      subst q
      exact ⟨rfl, StP.no (R4.out.gr.trans hg)⟩
    obtain ⟨v, rfl, hvo, hL⟩ := hok a s5 hx
    have q := HX4b.out
    rw [hx, then_ok] at q
    have HX5 := Lib.hid q
    obtain ⟨C, rfl, hC4, hC1⟩ := VO.cells hvo
    have F4 := Lib.hid (ver_facts S4.out hx)
    have r1 := R4.out.step hg hL
    have R5 : Hid (RdW w B 40 zQ w5 s5 ([.int .i64 (c : Int), .int .u32 (q0 : Int), .int .i64 (k : Int), .int .u32 (i : Int)] ++ (zV ++ []))) := Lib.hid r1
    have R6 : Hid (RdW w B 40 zQ (w5.setCells (w.heap.size + 1) 4 C) s5 ([.int .i64 (c : Int), .int .u32 (q0 : Int), .int .i64 (k : Int), .int .u32 (i : Int)] ++ (C ++ []))) := Lib.hid (R5.out.part (by rw [hC4]; rfl))
    have vo : VO (w5.setCells (w.heap.size + 1) 4 C) (w.heap.size + 2) (.agg C.toArray) (rawOf a) := vo_cells (show w.heap.size + 1 < w.heap.size + 2 by omega) C 4 (hvo.lower R4.out.size)
    have VO6 := Lib.hid vo
    have HC4 := Lib.hid hC4
    have HC1 := Lib.hid hC1
    clear vo r1 hvo hL hok hno hg hx q HV hC4 hC1 HX4b
    have R6' : Hid (RdW w B 40 zQ (w5.setCells (w.heap.size + 1) 4 C) s5 (cellsQ (c : Int) q0 (cellsO (k : Int) i C))) := Lib.hid (by
      have := R6.out
      rw [List.append_nil] at this
      exact this)
    clear R6
    have HVO : reqVOk ⟨c, q0, k, i, a⟩ := (by unfold reqVOk; rw [if_pos HKK.out]; exact F4.out.1)
    have hm := may_got (q := q0) (i := i) (v := a) T0.out T2.out HVO
    have qo : QO (w5.setCells (w.heap.size + 1) 4 C) (w.heap.size + 2) (.agg (cellsQ (c : Int) q0 (cellsO (k : Int) i C)).toArray) (reqU ⟨c, q0, k, i, a⟩) := ⟨_, rfl, VO6.out⟩
    have hvs : VerS (reqU ⟨c, q0, k, i, a⟩).ver := verS_raw HVO
    have HMR := Lib.hid (fun (b : Bool) (h : mayBeR (reqU ⟨c, q0, k, i, a⟩) = b) => w_mayRequest (reqU ⟨c, q0, k, i, a⟩) (.agg (cellsQ (c : Int) q0 (cellsO (k : Int) i C)).toArray) b (w5.setCells (w.heap.size + 1) 4 C) h qo.told hvs)
    have QO1 := Lib.hid qo
    have HMM := Lib.hid hm
    obtain ⟨CS, hCS⟩ : ∃ CS, cellsQ (c : Int) q0 (cellsO (k : Int) i C) = CS := ⟨_, rfl⟩
    have hcl : CS.length = 8 ∧ CS.toArray.all (·.oneCell') = true := by
      obtain ⟨R', e', h1, h2⟩ := qo.cells
      rw [hCS] at e'
      have e2 := congrArg (fun v => match v with | Value.agg c => c.toList | _ => []) e'
      simp at e2
      subst e2
      exact ⟨h1, h2⟩
    rw [hCS] at HMR QO1 R6'
    have HCL := Lib.hid hcl
    clear hm qo hvs hcl hCS HVO
    go_wp2_with (first | (go_skip) | (refine wpList_store_part rfl 30 _ _ rfl (w.heap.size + 1) 4 rfl C rfl [.int .i64 (c : Int), .int .u32 (q0 : Int), .int .i64 (k : Int), .int .u32 (i : Int)] zV [] R5.out.km rfl (by rw [HC4.out]; rfl) (by rw [size_ver, HC4.out]) HC1.out ?_; rintro w6 - - hw6; subst hw6) | (refine wpList_load_blkW rfl 40 _ rfl (w.heap.size + 1) rfl R6'.out.km Try.underlying40 rfl (by rw [size_req, HCL.out.1]) ?_))
    by_cases ht : k = 1 → i = 0
    case neg =>
      have q := HX5.out
      rw [if_neg ht] at q
      subst q
      have HC := Lib.hid (HMR.out false (by rw [HMM.out]; exact decide_eq_false ht))
      clear ht
      refine HC.out.mono ?_
      rintro e w7 ⟨rfl, b7⟩
      have R7 := Lib.hid (R6'.out.call b7)
      clear b7
      go_wp2_with fail
      refine (HNO.out 1 _).mono ?_
      rintro e wx ⟨rfl, rfl⟩
      exact ⟨rfl, StP.no R7.out.gr⟩
    have q := HX5.out
    rw [if_pos ht] at q
    subst q
    have HC := Lib.hid (HMR.out true (by rw [HMM.out]; exact decide_eq_true ht))
    clear ht
    refine HC.out.mono ?_
    rintro e w7 ⟨rfl, b7⟩
    have R7 := Lib.hid (R6'.out.call b7)
    have Q7 := Lib.hid (QO1.out.keep b7)
    clear b7
    go_wp2_with fail
    refine (HOK.out _ _).mono ?_
    rintro e wx ⟨rfl, rfl⟩
    have K7 := Lib.hid R7.out.kn
    have M7 := Lib.hid R7.out.km
    have fin := R7.out.fin CS.toArray
    have G8 := Lib.hid fin.1
    have L8 := Lib.hid fin.2
    have Q8 := Lib.hid ((Q7.out.row (show w.heap.size < w.heap.size + 2 by omega) CS.toArray).lower (base' := w.heap.size) (by omega))
    clear fin
    go_wp2_with (first | (refine wpList_load_blkW rfl 40 _ rfl (w.heap.size + 1) rfl M7.out Try.underlying40 rfl (by rw [size_req, HCL.out.1]) ?_) | (refine wpList_store_blk rfl 40 _ _ rfl w.heap.size CS rfl rfl K7.out (by rw [size_req, HCL.out.1]) (by rw [HCL.out.1]; rfl) HCL.out.2 ?_))
    refine bodyPost_ret (v := .agg CS.toArray) (results_cell_blk rfl _ _ _ rfl (K7.out.row CS (by rw [HCL.out.1]; rfl)) Try.underlying40 rfl (by rw [size_req, HCL.out.1])) rfl (StP.ok G8.out Q8.out L8.out)
  · have q := HX4.out
    rw [if_neg hk, then_ok] at q
    have HX5 := Lib.hid q
    have e0 : ((k : Int) == 1) = false := by simp; omega
    have HKK := Lib.hid hk
    clear q hk HX4
    have HVO : reqVOk ⟨c, q0, k, i, noVer⟩ := (by unfold reqVOk; rw [if_neg HKK.out])
    have hm := may_got (q := q0) (i := i) (v := noVer) T0.out T2.out HVO
    have qo : QO (w4.setCell ⟨w.heap.size + 1, 3, none⟩ (.int .u32 (i : Int))) (w.heap.size + 2) (.agg (cellsQ (c : Int) q0 (cellsO (k : Int) i zV)).toArray) (reqU ⟨c, q0, k, i, noVer⟩) := ⟨_, rfl, VO.none _ _⟩
    have hvs : VerS (reqU ⟨c, q0, k, i, noVer⟩).ver := verS_raw HVO
    have HMR := Lib.hid (fun (b : Bool) (h : mayBeR (reqU ⟨c, q0, k, i, noVer⟩) = b) => w_mayRequest (reqU ⟨c, q0, k, i, noVer⟩) (.agg (cellsQ (c : Int) q0 (cellsO (k : Int) i zV)).toArray) b (w4.setCell ⟨w.heap.size + 1, 3, none⟩ (.int .u32 (i : Int))) h qo.told hvs)
    have QO1 := Lib.hid qo
    have HMM := Lib.hid hm
    obtain ⟨CS, hCS⟩ : ∃ CS, cellsQ (c : Int) q0 (cellsO (k : Int) i zV) = CS := ⟨_, rfl⟩
    have hcl : CS.length = 8 ∧ CS.toArray.all (·.oneCell') = true := by
      obtain ⟨R', e', h1, h2⟩ := qo.cells
      rw [hCS] at e'
      have e2 := congrArg (fun v => match v with | Value.agg c => c.toList | _ => []) e'
      simp at e2
      subst e2
      exact ⟨h1, h2⟩
    rw [hCS] at HMR QO1 R4
    have HCL := Lib.hid hcl
    clear hm qo hvs hcl hCS HVO
    go_wp2_with (first | (go_skip) | (refine wpList_load_blkW rfl 40 _ rfl (w.heap.size + 1) rfl R4.out.km Try.underlying40 rfl (by rw [size_req, HCL.out.1]) ?_))
    by_cases ht : k = 1 → i = 0
    case neg =>
      have q := HX5.out
      rw [if_neg ht] at q
      subst q
      have HC := Lib.hid (HMR.out false (by rw [HMM.out]; exact decide_eq_false ht))
      clear ht
      refine HC.out.mono ?_
      rintro e w7 ⟨rfl, b7⟩
      have R7 := Lib.hid (R4.out.call b7)
      clear b7
      go_wp2_with fail
      refine (HNO.out 1 _).mono ?_
      rintro e wx ⟨rfl, rfl⟩
      exact ⟨rfl, StP.no R7.out.gr⟩
    have q := HX5.out
    rw [if_pos ht] at q
    subst q
    have HC := Lib.hid (HMR.out true (by rw [HMM.out]; exact decide_eq_true ht))
    clear ht
    refine HC.out.mono ?_
    rintro e w7 ⟨rfl, b7⟩
    have R7 := Lib.hid (R4.out.call b7)
    have Q7 := Lib.hid (QO1.out.keep b7)
    clear b7
    go_wp2_with fail
    refine (HOK.out _ _).mono ?_
    rintro e wx ⟨rfl, rfl⟩
    have K7 := Lib.hid R7.out.kn
    have M7 := Lib.hid R7.out.km
    have fin := R7.out.fin CS.toArray
    have G8 := Lib.hid fin.1
    have L8 := Lib.hid fin.2
    have Q8 := Lib.hid ((Q7.out.row (show w.heap.size < w.heap.size + 2 by omega) CS.toArray).lower (base' := w.heap.size) (by omega))
    clear fin
    go_wp2_with (first | (refine wpList_load_blkW rfl 40 _ rfl (w.heap.size + 1) rfl M7.out Try.underlying40 rfl (by rw [size_req, HCL.out.1]) ?_) | (refine wpList_store_blk rfl 40 _ _ rfl w.heap.size CS rfl rfl K7.out (by rw [size_req, HCL.out.1]) (by rw [HCL.out.1]; rfl) HCL.out.2 ?_))
    refine bodyPost_ret (v := .agg CS.toArray) (results_cell_blk rfl _ _ _ rfl (K7.out.row CS (by rw [HCL.out.1]; rfl)) Try.underlying40 rfl (by rw [size_req, HCL.out.1])) rfl (StP.ok G8.out Q8.out L8.out)
end Go.Proofs.Ytloogjdojojehaa
