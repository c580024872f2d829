/- The store is opened on a disk that nothing was written to. -/
import Derived.Test.YtbobdbdknapdcaaSoTur
import Derived.Test.YtbobdbdknapdcaaG1
namespace Go.Proofs.Ytbobdbdknapdcaa
open Go.RowKit
set_option linter.unusedVariables false

variable {w w' : World} {base : Nat}
/-- a store in memory: its blocks, how many sectors are left -/
structure StoD (base : Nat) (w : World) (P : Nat) (L : List (List Nat)) (r : Nat) (D b0 b1 b2 J nx M k : Nat) (x1 v : Value) (Dm : DataW Unit) (d : DiskM) (js : List (Nat × JurM)) (F : Nat → Prop) : Prop where
  st : StJ base w D d ((J, ⟨b0, b1, nx⟩) :: js) F
  dk : DkJ d (2000 + 100 * L.length)
  jur : JurOk d ⟨b0, b1, nx⟩ ((77 :: bigL 1 8) :: L.map fun x => 66 :: x)
  con : ConW w base P 7 56 (stP D b0 b1 b2 (ptD J) x1 0) M k Dm v L 1 true
  nP : ¬ F P
  nM : ¬ F M
  nv : Apart F v
  big : b1 ≤ 1000
  room : b1 - nx = r
  few : L.length ≤ 20
  short : ∀ x ∈ L, x.length ≤ 150
def StoW (base : Nat) (w : World) (P : Nat) (L : List (List Nat)) (r : Nat) : Prop := ∃ D b0 b1 b2 J nx M k x1 v Dm d js F, StoD base w P L r D b0 b1 b2 J nx M k x1 v Dm d js F
theorem StoD.keep {P : Nat} {L : List (List Nat)} {r D b0 b1 b2 J nx M k : Nat} {x1 v : Value} {Dm : DataW Unit} {d : DiskM} {js : List (Nat × JurM)} {F : Nat → Prop} (h : StoD base w P L r D b0 b1 b2 J nx M k x1 v Dm d js F) (hb : Below w.heap.size w w') : StoD base w' P L r D b0 b1 b2 J nx M k x1 v Dm d js F :=
  ⟨theJur.keep h.st hb.size fun i hi => hb.block i (theJur.lt h.st i hi).2, h.dk, h.jur, h.con.below hb, h.nP, h.nM, h.nv, h.big, h.room, h.few, h.short⟩
theorem StoW.keep {P : Nat} {L : List (List Nat)} {r : Nat} (h : StoW base w P L r) (hb : Below w.heap.size w w') : StoW base w' P L r := by
  obtain ⟨D, b0, b1, b2, J, nx, M, k, x1, v, Dm, d, js, F, h⟩ := h
  exact ⟨D, b0, b1, b2, J, nx, M, k, x1, v, Dm, d, js, F, h.keep hb⟩
theorem build_b3 (w : World) (a b c : Int) : (Instr.build 48 #[(0, .int .i64 a), (1, .int .i64 b), (2, .int .i64 c)]).run Try.prog w = .ok (.agg #[.int .i64 a, .int .i64 b, .int .i64 c]) w := by kernel_rfl

theorem build_sto (w : World) (d : Nat) (b0 b1 b2 : Int) : (Instr.build 56 #[(0, .pointer (some ⟨d, 0, none⟩)), (1, .agg #[.int .i64 b0, .int .i64 b1, .int .i64 b2])]).run Try.prog w = .ok (.agg #[.pointer (some ⟨d, 0, none⟩), .int .i64 b0, .int .i64 b1, .int .i64 b2, .pointer none, .pointer none, .int .i64 0, .map none, .slice none 0 0, .int .u64 0, .bool false]) w := by kernel_rfl
def zco : List Value := [.map none, .slice none 0 0, .int .u64 0, .bool false]
theorem alloc_two (w : World) : (Instr.alloc 57 true (.tuple #[])).run Try.prog w = .ok (.pointer (some ⟨w.heap.size, 0, none⟩)) (w.alloc (.cells (zco ++ zco).toArray 57)) := by kernel_rfl
/-- what may be turned while the two journals are told of: the store's block -/
def opC (w5 : World) (A : Nat) (c0 c1 : List Value) (b : Bool) (W : World) : Prop := w5.grownBy W (some A) ∧ Blk W A 56 (match b with | true => c1 | false => c0)
theorem opC_new {w5 : World} {A : Nat} {c0 c1 : List Value} {b : Bool} {W W' : World} (h : opC w5 A c0 c1 b W) (hb : Below W.heap.size W W') : opC w5 A c0 c1 b W' := ⟨h.1.trans ((grown_below hb).but _), h.2.below hb h.2.lt⟩
theorem scan_new {n fr te : Nat} (hf : fr < te) (ht : te ≤ n) : scanK (areaD (newD n) fr (te - fr)) = ([], 0) := jur_open (jur_new hf ht)
theorem size_two : (Try.prog.info? 57).map (·.size) = some 8 := by kernel_rfl
/-- a round behind its journal's opening, as a relation of its own -/
def opR (base : Nat) (w : World) (D mid n A G i : Nat) (wr : World) : Prop :=
  ∃ (F : Nat → Prop) (js : List (Nat × JurM)) (x0 x1 : Value) (f0 f1 : List Value), StJ base wr D (newD n) js F ∧ Blk wr A 56 (stP D 0 mid n x0 x1 0 ++ zco) ∧ Blk wr G 57 (f0 ++ f1) ∧ f0.length = 4 ∧ f1.length = 4 ∧ f0[3]? = some (.bool false) ∧ f1[3]? = some (.bool false) ∧ (i = 0 → x0 = .pointer none ∧ x1 = .pointer none) ∧ (i = 1 → x1 = .pointer none) ∧ ¬ F A ∧ ¬ F G ∧ Below base w wr
set_option maxRecDepth 100000 in
set_option maxHeartbeats 8000000 in
theorem s_OpenNew {D : Nat} {F0 : Nat → Prop} (n mid : Nat) (h : DkF base w D (newD n) F0) (hw : base ≤ w.heap.size) (h1 : 2 ≤ mid) (h2 : mid < n) (h3 : n ≤ 200) :
    Calls Try.prog 6 #[ptD D, .int .i64 0, .int .i64 (mid : Int), .int .i64 (n : Int)] w fun x w' => ∃ P, x = .returned (.tuple #[ptD P, .int .i64 0]) ∧ StoW base w' P [] (mid - 1) ∧ Below base w w' := by
  have hst : StJ base w D (newD n) [] F0 := by
    obtain ⟨S, M, k, E, V, q, hx, hF⟩ := h
    exact ⟨S, M, k, E, V, q, hx, fun i hi => by rw [hF]; exact hi, (fun p hp => by cases hp), List.nodup_nil, fun i hi => hx.lt i (by rw [hF] at hi; exact hi)⟩
  obtain ⟨A, hA⟩ : ∃ A, w.heap.size = A := ⟨_, rfl⟩
  obtain ⟨w1, hw1⟩ : ∃ w1, w.alloc (.cells #[.pointer (some ⟨D, 0, none⟩), .int .i64 0, .int .i64 (mid : Int), .int .i64 (n : Int), .pointer none, .pointer none, .int .i64 0, .map none, .slice none 0 0, .int .u64 0, .bool false] 56) = w1 := ⟨_, rfl⟩
  have s1 : w1.heap.size = A + 1 := by rw [← hw1, ← hA]; simp
  have b1 : Below w.heap.size w w1 := by rw [← hw1]; exact (Below.refl w.heap.size w).alloc (Nat.le_refl _) _
  have k1 : Blk w1 A 56 (stP D 0 mid n (.pointer none) (.pointer none) 0 ++ zco) := by rw [← hw1]; exact Blk.newAt w A hA _ _ rfl
  obtain ⟨w2, hw2⟩ : ∃ w2, w1.alloc (.cells (zco ++ zco).toArray 57) = w2 := ⟨_, rfl⟩
  have b2 : Below w1.heap.size w1 w2 := by rw [← hw2]; exact (Below.refl _ _).alloc (Nat.le_refl _) _
  have k2 : Blk w2 (A + 1) 57 (zco ++ zco) := by rw [← hw2]; exact Blk.newAt w1 _ s1 _ _ rfl
  have A2 := k1.below b2 k1.lt
  have B2 : Below w.heap.size w w2 := b1.trans (b2.mono (by rw [s1, hA]; omega))
  have hFl := theJur.lt hst
  have hst2 := (hst.below B2 hw).1
  obtain ⟨G, hG⟩ : ∃ G, A + 1 = G := ⟨_, rfl⟩
  rw [hG] at k2 s1
  have HR0 : Hid (opR base w D mid n A G 0 w2) := Lib.hid ⟨F0, [], _, _, zco, zco, hst2, A2, k2, rfl, rfl, rfl, rfl, (fun _ => ⟨rfl, rfl⟩), (fun _ => rfl), (fun e => by have := (hFl A e).2; omega), (fun e => by have := (hFl G e).2; omega), B2.mono hw⟩
  have HDK : Hid (DkJ (newD n) 50000) := Lib.hid ((dkj_new (by omega)).more (by decide))
  have HDK0 : Hid (DkJ (newD n) 1000) := Lib.hid ((dkj_new (by omega)).more (by decide))
  have HN : Hid (2 ≤ mid ∧ mid < n ∧ n ≤ 200) := Lib.hid ⟨h1, h2, h3⟩
  have HW := Lib.hid hw
  have HAG : Hid (A ≠ G) := Lib.hid (by omega)
  have HAB : Hid (base ≤ A ∧ base ≤ G) := Lib.hid (by omega)
  have HA := Lib.hid hA
  have HS1 := Lib.hid s1
  clear h hst h1 h2 h3 hw b1 k1 b2 k2 A2 B2 hFl hst2 hG s1
  unfold ptD
  go_enter Try.func6, Try.ntmps6
  go_wp2_with (first | (refine wpList_build_at rfl 48 _ rfl _ (by simp only [List.map_toArray, List.map_cons, List.map_nil]; exact build_b3 _ _ _ _) ?_) | (refine wpList_build_at rfl 56 _ rfl _ (by simp only [List.map_toArray, List.map_cons, List.map_nil]; exact build_sto _ _ _ _ _) ?_) | (refine wpList_alloc_n rfl 57 rfl G HS1.out _ (alloc_two _) ?_; rw [hw2]))
  go_loopw [24] (fun i wr => (i = .int .i64 0 ∧ opR base w D mid n A G 0 wr) ∨ (i = .int .i64 1 ∧ opR base w D mid n A G 1 wr) ∨ (i = .int .i64 2 ∧ opR base w D mid n A G 2 wr)) (fun i _ => 2 - (intOf i).toNat)
  case atStart => exact .inl ⟨rfl, HR0.out⟩
  case round =>
    rcases hrel with ⟨rfl, hR⟩ | ⟨rfl, hR⟩ | ⟨rfl, hR⟩
    · obtain ⟨F, js, x0, x1, f0, f1, hst, hA, hG, l0, l1, m0, m1, e0, e1, nA, nG, hbw⟩ := hR
      have hwr : base ≤ wr.heap.size := Nat.le_trans HW.out hbw.size
      have HO := Lib.hid (s_open0 (P := A) (cs := zco) hA hst HDK.out hwr (by have := HN.out; omega) (by have := HN.out; show _ ≤ (newD n).sec.length; simp [newD]; try omega) (by have := HN.out; omega) [] 0 (scan_new (by have := HN.out; omega) (by have := HN.out; omega)))
      have HA := Lib.hid hA
      have HG := Lib.hid hG
      have HNF : Hid (¬ F A ∧ ¬ F G) := Lib.hid ⟨nA, nG⟩
      have HBW := Lib.hid hbw
      have HL : Hid (f0.length = 4 ∧ f1.length = 4 ∧ f0[3]? = some (.bool false) ∧ f1[3]? = some (.bool false)) := Lib.hid ⟨l0, l1, m0, m1⟩
      have HE0 := Lib.hid (e0 rfl).2
      clear hst hA hG l0 l1 m0 m1 e0 e1 nA nG hbw hwr
      unfold ptD at HO
      go_wp2_with fail
      refine HO.out.mono ?_
      rintro e w5 ⟨J, p5, c5, F5, rfl, h5, _, t5⟩
      have A5 := t5.blk HA.out HNF.out.1
      have G5 := t5.blk HG.out HNF.out.2
      have nA5 := t5.not HNF.out.1 HA.out.lt
      have nG5 := t5.not HNF.out.2 HG.out.lt
      have B5 := HBW.out.trans t5.b
      have hC0 : opC w5 A (stP D 0 mid n x0 x1 0 ++ zco) (stP D 0 mid n (.pointer (some ⟨J, 0, none⟩)) x1 0 ++ zco) false w5.drew := ⟨⟨rfl, rfl, rfl, Nat.le_refl _, fun _ _ _ => rfl⟩, A5.drew⟩
      have HC0 := Lib.hid hC0
      have H5 := Lib.hid h5
      have G5H := Lib.hid G5
      have HN5 : Hid (¬ F5 A ∧ ¬ F5 G) := Lib.hid ⟨nA5, nG5⟩
      have B5H := Lib.hid B5
      clear h5 t5 A5 G5 nA5 nG5 B5 hC0
      go_wp2_with fail
      refine region_mix 9 11 (by decide) mixed (by kernel_rfl) (by kernel_rfl) (fun u => #[_, _, _, _, _, _, _, _, _, _, _, _, _, _, _, _, _, _, _, _, _, _, _, _, _, _, _, _, _, _, _, _, _, _, _, _, _, u 0, u 1, u 2, u 3, u 4, u 5, u 6, u 7, u 8, u 10, _, _, _, _, _, _, _, _, _, _, _, _, _, _, _, _, _, _, _, _, _, _, _, _, _, _, _, _, _, _, _, _, _]) [] (fun i => match i with | 0 => _ | 1 => _ | 2 => _ | 3 => _ | 4 => _ | 5 => _ | 6 => _ | 7 => _ | 8 => _ | 10 => _ | _ => undef) rfl
        (opC w5 A (stP D 0 mid n x0 x1 0 ++ zco) (stP D 0 mid n (.pointer (some ⟨J, 0, none⟩)) x1 0 ++ zco)) HC0.out (fun _ _ _ => True) (fun i v _ => match i with
        | 0 => v = .pointer (some ⟨A, 0, none⟩)
        | 1 => v = .int .i64 0
        | 2 => v = .int .i64 0
        | 3 => v = .pointer (some ⟨J, 0, none⟩)
        | 4 => v = .slice p5 0 c5
        | 6 => v = .pointer (some ⟨A, 0, none⟩)
        | 7 => v = .pointer (some ⟨A, 4, none⟩)
        | 8 => v = .pointer (some ⟨A, 4, none⟩)
        | 10 => v = .pointer (some ⟨G, 0, none⟩)
        | 5 => ∃ Mf, v = .agg (co0 Mf).toArray
        | _ => True) ?mono ?step ?one ?last
      case mono => exact fun _ _ _ _ _ _ h _ => h
      case step =>
        intro bb u W j op hj hjk _ ho hC hd
        rcases j with _ | _ | _ | _ | _ | _ | _ | _ | _ | _ | _ | j
        all_goals try (simp only [List.getElem?_cons_zero, List.getElem?_cons_succ, Option.some.injEq] at ho; subst ho)
        · go_wp2_with fail
          exact ⟨_, by rfl, rfl, hC, trivial⟩
        · go_wp2_with fail
          exact ⟨_, by rfl, rfl, hC, trivial⟩
        · go_wp2_with fail
          exact ⟨_, by rfl, rfl, hC, trivial⟩
        · go_wp2_with fail
          exact ⟨_, by rfl, rfl, hC, trivial⟩
        · go_wp2_with fail
          exact ⟨_, by rfl, rfl, hC, trivial⟩
        · have h4 : u 4 = .slice p5 0 c5 := hd ⟨4, .data⟩ (by simp) rfl
          rw [h4]
          have hcc := c_contentsOf_none p5 c5 W
          have HCO := Lib.hid hC
          clear hC
          go_wp2_with fail
          (with_reducible refine hcc.mono ?_)
          rintro e w6 ⟨Mf, rfl, _, _, hb6⟩
          go_wp2_with fail
          exact ⟨_, by simp [upd, h4], ⟨Mf, rfl⟩, opC_new HCO.out hb6, trivial⟩
        · have h0 : u 0 = .pointer (some ⟨A, 0, none⟩) := hd ⟨0, .data⟩ (by simp) rfl
          rw [h0]
          go_wp2_with fail
          exact ⟨_, by simp [upd, h0], rfl, hC, trivial⟩
        · have h6 : u 6 = .pointer (some ⟨A, 0, none⟩) := hd ⟨6, .data⟩ (by simp) rfl
          rw [h6]
          go_wp2_with fail
          exact ⟨_, by simp [upd, h6], rfl, hC, trivial⟩
        · have h7 : u 7 = .pointer (some ⟨A, 4, none⟩) := hd ⟨7, .data⟩ (by simp) rfl
          have h1 : u 1 = .int .i64 0 := hd ⟨1, .data⟩ (by simp) rfl
          rw [h7, h1]
          go_wp2_with fail
          exact ⟨_, by simp [upd, h7, h1], rfl, hC, trivial⟩
        · omega
        · have h2 : u 2 = .int .i64 0 := hd ⟨2, .data⟩ (by simp) rfl
          rw [h2]
          go_wp2_with fail
          exact ⟨_, by simp [upd, h2], rfl, hC, trivial⟩
        · omega
      case one =>
        intro u W op ho hC hd
        simp only [List.getElem?_cons_zero, List.getElem?_cons_succ, Option.some.injEq] at ho
        subst ho
        have h8 : u 8 = .pointer (some ⟨A, 4, none⟩) := hd ⟨8, .data⟩ (by simp) rfl
        have h3 : u 3 = .pointer (some ⟨J, 0, none⟩) := hd ⟨3, .data⟩ (by simp) rfl
        have hA : Blk W A 56 (stP D 0 mid n x0 x1 0 ++ zco) := hC.2
        have c4 := hA.cell 4
        have f4 := hA.free 4
        simp only [stP, List.cons_append, List.getElem?_cons_zero, List.getElem?_cons_succ] at c4
        have hfin : opC w5 A (stP D 0 mid n x0 x1 0 ++ zco) (stP D 0 mid n (.pointer (some ⟨J, 0, none⟩)) x1 0 ++ zco) true (W.setCell ⟨A, 4, none⟩ (.pointer (some ⟨J, 0, none⟩))) := ⟨hC.1.trans (grown_setCell W ⟨A, 4, none⟩ _), hA.set 4 _⟩
        have HFIN := Lib.hid hfin
        clear hC hA hfin hd
        rw [h8, h3]
        go_wp2_with fail
        exact ⟨undef, by simp [upd, h8, h3], trivial, HFIN.out, trivial⟩
      case last =>
        intro u W op ho hC hS
        simp only [List.getElem?_cons_zero, List.getElem?_cons_succ, Option.some.injEq] at ho
        subst ho
        have h10 : u 10 = .pointer (some ⟨G, 0, none⟩) := hS 10 (by decide)
        obtain ⟨Mf, h5⟩ : ∃ Mf, u 5 = .agg (co0 Mf).toArray := hS 5 (by decide)
        have hGW : Blk W G 57 ([] ++ (f0 ++ f1)) := (G5H.out.grownO hC.1 (fun i e e' => HAG.out (by rw [← e', ← Option.some.inj e]))).cast (by simp)
        have HCL := Lib.hid hC
        have HGW := Lib.hid hGW
        clear hS hC hGW
        rw [h10, h5]
        go_wp2_with (refine wpList_store_part rfl 54 _ _ rfl G 0 rfl (co0 Mf) rfl [] f0 f1 HGW.out rfl (by have := HL.out; first | exact this.1 | exact this.2.1) (by rw [size_co]; rfl) (by simp [co0, Value.oneCell']) ?_; intro w8 hb8 hbel8 hw8; have HW8 := Lib.hid hw8; clear hw8)
        have g8 : W.grownBy w8 (some G) := ⟨hbel8.os, hbel8.tape, hbel8.output, hbel8.size, fun i _ hi => by rw [HW8.out]; exact heap_setCells (fun e => hi (by rw [e])) _ _ _⟩
        have A8 := HCL.out.2.grownO g8 (fun i e e' => HAG.out (by rw [← e', ← Option.some.inj e]))
        have St8 := theJur.keep H5.out (Nat.le_trans HCL.out.1.size g8.size) fun i hi => (g8.block i (Nat.lt_of_lt_of_le (theJur.lt H5.out i hi).2 HCL.out.1.size) (fun e => HN5.out.2 (by rw [← Option.some.inj e]; exact hi))).trans (HCL.out.1.block i (theJur.lt H5.out i hi).2 (fun e => HN5.out.1 (by rw [← Option.some.inj e]; exact hi)))
        have B8 : Below base w w8 := (B5H.out.grown HCL.out.1 (Nat.le_trans HW.out B5H.out.size) (fun i e => by rw [← Option.some.inj e]; exact HAB.out.1)).grown g8 (by have := HCL.out.1.size; have := B5H.out.size; have := HW.out; omega) (fun i e => by rw [← Option.some.inj e]; exact HAB.out.2)
        have hG8 : Blk w8 G 57 (co0 Mf ++ f1) := hb8.cast (by simp)
        have HR : Hid (opR base w D mid n A G 1 w8) := Lib.hid ⟨F5, _, _, _, _, _, St8, A8, hG8, rfl, HL.out.2.1, rfl, HL.out.2.2.2, (fun e => by cases e), (fun _ => HE0.out), HN5.out.1, HN5.out.2, B8⟩
        clear hb8 hbel8 g8 A8 St8 B8 hG8
        go_wp2_with fail
        go_roundw
        case rel => exact .inr (.inl ⟨rfl, HR.out⟩)
        case measure => decide
    · obtain ⟨F, js, x0, x1, f0, f1, hst, hA, hG, l0, l1, m0, m1, e0, e1, nA, nG, hbw⟩ := hR
      have hwr : base ≤ wr.heap.size := Nat.le_trans HW.out hbw.size
      have HO := Lib.hid (s_open1 (P := A) (cs := zco) hA hst HDK.out hwr (by have := HN.out; omega) (by have := HN.out; show _ ≤ (newD n).sec.length; simp [newD]; try omega) (by have := HN.out; omega) [] 0 (scan_new (by have := HN.out; omega) (by have := HN.out; omega)))
      have HA := Lib.hid hA
      have HG := Lib.hid hG
      have HNF : Hid (¬ F A ∧ ¬ F G) := Lib.hid ⟨nA, nG⟩
      have HBW := Lib.hid hbw
      have HL : Hid (f0.length = 4 ∧ f1.length = 4 ∧ f0[3]? = some (.bool false) ∧ f1[3]? = some (.bool false)) := Lib.hid ⟨l0, l1, m0, m1⟩
      clear hst hA hG l0 l1 m0 m1 e0 e1 nA nG hbw hwr
      unfold ptD at HO
      go_wp2_with fail
      refine HO.out.mono ?_
      rintro e w5 ⟨J, p5, c5, F5, rfl, h5, _, t5⟩
      have A5 := t5.blk HA.out HNF.out.1
      have G5 := t5.blk HG.out HNF.out.2
      have nA5 := t5.not HNF.out.1 HA.out.lt
      have nG5 := t5.not HNF.out.2 HG.out.lt
      have B5 := HBW.out.trans t5.b
      have hC0 : opC w5 A (stP D 0 mid n x0 x1 0 ++ zco) (stP D 0 mid n x0 (.pointer (some ⟨J, 0, none⟩)) 0 ++ zco) false w5.drew := ⟨⟨rfl, rfl, rfl, Nat.le_refl _, fun _ _ _ => rfl⟩, A5.drew⟩
      have HC0 := Lib.hid hC0
      have H5 := Lib.hid h5
      have G5H := Lib.hid G5
      have HN5 : Hid (¬ F5 A ∧ ¬ F5 G) := Lib.hid ⟨nA5, nG5⟩
      have B5H := Lib.hid B5
      clear h5 t5 A5 G5 nA5 nG5 B5 hC0
      go_wp2_with fail
      refine region_mix 9 11 (by decide) mixed (by kernel_rfl) (by kernel_rfl) (fun u => #[_, _, _, _, _, _, _, _, _, _, _, _, _, _, _, _, _, _, _, _, _, _, _, _, _, _, _, _, _, _, _, _, _, _, _, _, _, u 0, u 1, u 2, u 3, u 4, u 5, u 6, u 7, u 8, u 10, _, _, _, _, _, _, _, _, _, _, _, _, _, _, _, _, _, _, _, _, _, _, _, _, _, _, _, _, _, _, _, _, _]) [] (fun i => match i with | 0 => _ | 1 => _ | 2 => _ | 3 => _ | 4 => _ | 5 => _ | 6 => _ | 7 => _ | 8 => _ | 10 => _ | _ => undef) rfl
        (opC w5 A (stP D 0 mid n x0 x1 0 ++ zco) (stP D 0 mid n x0 (.pointer (some ⟨J, 0, none⟩)) 0 ++ zco)) HC0.out (fun _ _ _ => True) (fun i v _ => match i with
        | 0 => v = .pointer (some ⟨A, 0, none⟩)
        | 1 => v = .int .i64 1
        | 2 => v = .int .i64 1
        | 3 => v = .pointer (some ⟨J, 0, none⟩)
        | 4 => v = .slice p5 0 c5
        | 6 => v = .pointer (some ⟨A, 0, none⟩)
        | 7 => v = .pointer (some ⟨A, 4, none⟩)
        | 8 => v = .pointer (some ⟨A, 5, none⟩)
        | 10 => v = .pointer (some ⟨G, 4, none⟩)
        | 5 => ∃ Mf, v = .agg (co0 Mf).toArray
        | _ => True) ?mono ?step ?one ?last
      case mono => exact fun _ _ _ _ _ _ h _ => h
      case step =>
        intro bb u W j op hj hjk _ ho hC hd
        rcases j with _ | _ | _ | _ | _ | _ | _ | _ | _ | _ | _ | j
        all_goals try (simp only [List.getElem?_cons_zero, List.getElem?_cons_succ, Option.some.injEq] at ho; subst ho)
        · go_wp2_with fail
          exact ⟨_, by rfl, rfl, hC, trivial⟩
        · go_wp2_with fail
          exact ⟨_, by rfl, rfl, hC, trivial⟩
        · go_wp2_with fail
          exact ⟨_, by rfl, rfl, hC, trivial⟩
        · go_wp2_with fail
          exact ⟨_, by rfl, rfl, hC, trivial⟩
        · go_wp2_with fail
          exact ⟨_, by rfl, rfl, hC, trivial⟩
        · have h4 : u 4 = .slice p5 0 c5 := hd ⟨4, .data⟩ (by simp) rfl
          rw [h4]
          have hcc := c_contentsOf_none p5 c5 W
          have HCO := Lib.hid hC
          clear hC
          go_wp2_with fail
          (with_reducible refine hcc.mono ?_)
          rintro e w6 ⟨Mf, rfl, _, _, hb6⟩
          go_wp2_with fail
          exact ⟨_, by simp [upd, h4], ⟨Mf, rfl⟩, opC_new HCO.out hb6, trivial⟩
        · have h0 : u 0 = .pointer (some ⟨A, 0, none⟩) := hd ⟨0, .data⟩ (by simp) rfl
          rw [h0]
          go_wp2_with fail
          exact ⟨_, by simp [upd, h0], rfl, hC, trivial⟩
        · have h6 : u 6 = .pointer (some ⟨A, 0, none⟩) := hd ⟨6, .data⟩ (by simp) rfl
          rw [h6]
          go_wp2_with fail
          exact ⟨_, by simp [upd, h6], rfl, hC, trivial⟩
        · have h7 : u 7 = .pointer (some ⟨A, 4, none⟩) := hd ⟨7, .data⟩ (by simp) rfl
          have h1 : u 1 = .int .i64 1 := hd ⟨1, .data⟩ (by simp) rfl
          rw [h7, h1]
          go_wp2_with fail
          exact ⟨_, by simp [upd, h7, h1], rfl, hC, trivial⟩
        · omega
        · have h2 : u 2 = .int .i64 1 := hd ⟨2, .data⟩ (by simp) rfl
          rw [h2]
          go_wp2_with fail
          exact ⟨_, by simp [upd, h2], rfl, hC, trivial⟩
        · omega
      case one =>
        intro u W op ho hC hd
        simp only [List.getElem?_cons_zero, List.getElem?_cons_succ, Option.some.injEq] at ho
        subst ho
        have h8 : u 8 = .pointer (some ⟨A, 5, none⟩) := hd ⟨8, .data⟩ (by simp) rfl
        have h3 : u 3 = .pointer (some ⟨J, 0, none⟩) := hd ⟨3, .data⟩ (by simp) rfl
        have hA : Blk W A 56 (stP D 0 mid n x0 x1 0 ++ zco) := hC.2
        have c4 := hA.cell 5
        have f4 := hA.free 5
        simp only [stP, List.cons_append, List.getElem?_cons_zero, List.getElem?_cons_succ] at c4
        have hfin : opC w5 A (stP D 0 mid n x0 x1 0 ++ zco) (stP D 0 mid n x0 (.pointer (some ⟨J, 0, none⟩)) 0 ++ zco) true (W.setCell ⟨A, 5, none⟩ (.pointer (some ⟨J, 0, none⟩))) := ⟨hC.1.trans (grown_setCell W ⟨A, 5, none⟩ _), hA.set 5 _⟩
        have HFIN := Lib.hid hfin
        clear hC hA hfin hd
        rw [h8, h3]
        go_wp2_with fail
        exact ⟨undef, by simp [upd, h8, h3], trivial, HFIN.out, trivial⟩
      case last =>
        intro u W op ho hC hS
        simp only [List.getElem?_cons_zero, List.getElem?_cons_succ, Option.some.injEq] at ho
        subst ho
        have h10 : u 10 = .pointer (some ⟨G, 4, none⟩) := hS 10 (by decide)
        obtain ⟨Mf, h5⟩ : ∃ Mf, u 5 = .agg (co0 Mf).toArray := hS 5 (by decide)
        have hGW : Blk W G 57 (f0 ++ (f1 ++ [])) := (G5H.out.grownO hC.1 (fun i e e' => HAG.out (by rw [← e', ← Option.some.inj e]))).cast (by simp)
        have HCL := Lib.hid hC
        have HGW := Lib.hid hGW
        clear hS hC hGW
        rw [h10, h5]
        go_wp2_with (refine wpList_store_part rfl 54 _ _ rfl G 4 rfl (co0 Mf) rfl f0 f1 [] HGW.out HL.out.1.symm (by have := HL.out; first | exact this.1 | exact this.2.1) (by rw [size_co]; rfl) (by simp [co0, Value.oneCell']) ?_; intro w8 hb8 hbel8 hw8; have HW8 := Lib.hid hw8; clear hw8)
        have g8 : W.grownBy w8 (some G) := ⟨hbel8.os, hbel8.tape, hbel8.output, hbel8.size, fun i _ hi => by rw [HW8.out]; exact heap_setCells (fun e => hi (by rw [e])) _ _ _⟩
        have A8 := HCL.out.2.grownO g8 (fun i e e' => HAG.out (by rw [← e', ← Option.some.inj e]))
        have St8 := theJur.keep H5.out (Nat.le_trans HCL.out.1.size g8.size) fun i hi => (g8.block i (Nat.lt_of_lt_of_le (theJur.lt H5.out i hi).2 HCL.out.1.size) (fun e => HN5.out.2 (by rw [← Option.some.inj e]; exact hi))).trans (HCL.out.1.block i (theJur.lt H5.out i hi).2 (fun e => HN5.out.1 (by rw [← Option.some.inj e]; exact hi)))
        have B8 : Below base w w8 := (B5H.out.grown HCL.out.1 (Nat.le_trans HW.out B5H.out.size) (fun i e => by rw [← Option.some.inj e]; exact HAB.out.1)).grown g8 (by have := HCL.out.1.size; have := B5H.out.size; have := HW.out; omega) (fun i e => by rw [← Option.some.inj e]; exact HAB.out.2)
        have hG8 : Blk w8 G 57 (f0 ++ co0 Mf) := hb8.cast (by simp)
        have HR : Hid (opR base w D mid n A G 2 w8) := Lib.hid ⟨F5, _, _, _, _, _, St8, A8, hG8, HL.out.1, rfl, HL.out.2.2.1, rfl, (fun e => by cases e), (fun e => by cases e), HN5.out.1, HN5.out.2, B8⟩
        clear hb8 hbel8 g8 A8 St8 B8 hG8
        go_wp2_with fail
        go_roundw
        case rel => exact .inr (.inr ⟨rfl, HR.out⟩)
        case measure => decide
    · obtain ⟨F, js, x0, x1, f0, f1, hst, hA, hG, l0, l1, m0, m1, _, _, nA, nG, hbw⟩ := hR
      have c3 := hG.cell 3
      have c7 := hG.cell 7
      rw [List.getElem?_append_left (by omega), m0] at c3
      rw [List.getElem?_append_right (by omega), l0, m1] at c7
      have hNB := c_noBlocks 1 wr
      have HNB := Lib.hid hNB
      have HST := Lib.hid hst
      have HAW := Lib.hid hA
      have HNA := Lib.hid nA
      have HBW := Lib.hid hbw
      clear hst hA hG l0 l1 m0 m1 nA nG hbw hNB
      go_wp2_with fail
      refine HNB.out.mono ?_
      rintro e w5 ⟨M, rfl, hM, m5, b5⟩
      have hwr : base ≤ wr.heap.size := Nat.le_trans HW.out HBW.out.size
      have h5 := (HST.out.below b5 hwr).1
      have A5 := HAW.out.below b5 HAW.out.lt
      have nM : ¬ F M := fun e => by have := (theJur.lt HST.out M e).2; omega
      have B5 := HBW.out.trans (b5.mono hwr)
      have HT := Lib.hid (s_turn0 (c0 := .map none) (c1 := .slice none 0 0) (c2 := .int .u64 0) (c3 := .bool false) A5 h5 HNA.out HAB.out.1 m5 nM (by omega) HDK0.out (Nat.le_trans HW.out B5.size) (by have := HN.out; omega) (by have := HN.out; show _ ≤ (newD n).sec.length; simp [newD]; try omega) (by have := HN.out; omega))
      have HB5 := Lib.hid B5
      have HM : Hid (base ≤ M) := Lib.hid (by omega)
      have HWR := Lib.hid (Nat.le_trans HW.out B5.size)
      clear hM m5 b5 hwr h5 A5 nM B5
      go_wp2_with fail
      refine HT.out.mono ?_
      rintro e w6 ⟨rfl, J, F6, d6, st6, dk6, len6, jur6, A6, nA6, m6, nM6, b6⟩
      have HF : Hid (StoW base w6 A [] (mid - 1)) := Lib.hid ⟨D, 0, mid, n, J, 0 + 1, M, 0, x1, .slice none 0 0, .map [], d6, js, F6, st6, dk6, jur6, ⟨A6, rfl, by decide, m6, OwnR.nil _ _ _ _, HAB.out.1, HM.out, by simp, by simp⟩, nA6, nM6, (fun b e => by cases e), by have := HN.out; omega, by omega, by simp, by simp⟩
      have HB6 := Lib.hid (HB5.out.trans b6)
      clear st6 dk6 len6 jur6 A6 nA6 m6 nM6 b6
      go_wp2
      go_ret2
      exact ⟨A, rfl, HF.out, HB6.out⟩
end Go.Proofs.Ytbobdbdknapdcaa
