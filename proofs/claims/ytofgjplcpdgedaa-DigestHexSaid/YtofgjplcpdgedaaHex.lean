/-
  For every hash h and every byte i: Hex of h has 64 digits; the two at place i mod 32 are the higher and the lower four bits of h's byte there; and the hash of nothing begins as the document says. No condition.
-/
import Derived.Test.YtofgjplcpdgedaaRows
import Derived.WalkKit
import Derived.ProofKit
import Derived.OpenShut
import Derived.ChangeOld
import Derived.Below
import Derived.Test.YtofgjplcpdgedaaHexW
namespace Go.Proofs.Ytofgjplcpdgedaa.digestHex
open Go.ChangeShapes Go.WideShapes Go.ChangeAt Go.RowKit
set_option linter.unusedVariables false

theorem run_index_bs (l : List Int) (kk : IntKind) (j : Nat) (ho : Octets l) (hj : j < l.length) (w : World) :
    (Instr.index 9 (.string (bs l)) (.int kk (j : Int))).run Try.prog w = .ok (.int .u8 (l.getD j 0)) w := by
  have hs : (bs l).size = l.length := bs_size l
  have hjs : j < (bs l).size := by omega
  have hv : ((bs l)[j]'hjs).toNat = (l.getD j 0).toNat := by
    have h1 : ((bs l)[j]'hjs) = UInt8.ofNat (l.getD j 0).toNat := by
      show (bs l).data[j] = _
      simp [bs, hj]
    rw [h1]
    have := ho (l.getD j 0) (by rw [List.getD_eq_getElem?_getD, List.getElem?_eq_getElem hj]; exact List.getElem_mem _)
    rw [UInt8.toNat_ofNat']
    omega
  have h0 := ho (l.getD j 0) (by rw [List.getD_eq_getElem?_getD, List.getElem?_eq_getElem hj]; exact List.getElem_mem _)
  have hg : (bs l)[j]? = some ((bs l)[j]'hjs) := by simp [hjs]
  have hv' : (((l.getD j 0).toNat : Nat) : Int) = l.getD j 0 := by omega
  simp only [List.getD_eq_getElem?_getD] at hv hv' ⊢
  simp [Instr.index, asIntOf, Sem.run_bind, run_underlying Try.underlying9 w, hg, hv, hv']

set_option maxHeartbeats 1000000 in
set_option maxRecDepth 100000 in
theorem walk (h : List Int) (hh : h.length = 32) (ho : Octets h) (a1 : Int) (w1 : (Lit.int .u8 a1).wf = true) (w : World) :
    Calls Try.prog 6 #[.agg (ints .u8 h).toArray, .int .u8 a1] w fun e w' => e = .returned (.bool true) ∧ Below w.heap.size w w' := by
  obtain ⟨b0, b1⟩ : 0 ≤ a1 ∧ a1 ≤ 255 := by
    have := bounds_u8 w1
    omega
  obtain ⟨k, hk⟩ : ∃ k : Nat, a1 % 32 = (k : Int) := ⟨(a1 % 32).toNat, by omega⟩
  have hk32 : k < 32 := by omega
  have hlen := hexT_len h 32
  have hoct := hexT_octets h ho 32
  obtain ⟨e1, e2⟩ := hexT_at h k 32 hk32
  have i1 := run_index_bs (hexT h 32) .i64 (2 * k) hoct (by omega)
  have i2 := run_index_bs (hexT h 32) .i64 (2 * k + 1) hoct (by omega)
  rw [e1] at i1
  rw [e2] at i2
  have hx : 0 ≤ h.getD k 0 ∧ h.getD k 0 < 256 := by
    rw [List.getD_eq_getElem?_getD, List.getElem?_eq_getElem (by omega)]; exact ho _ (List.getElem_mem _)
  have hB := (Blk.new w 23 (ints .u8 h))
  have hc := hB.int (j := k) (by omega)
  have hsz : (bs (hexT h 32)).size = 64 := by rw [bs_size, hlen]
  generalize h.getD k 0 = x at *
  have hH := fun w => d_Hex h w hh ho
  have HC := Lib.hid hH
  have HH := Lib.hid hh
  have HK := Lib.hid hk
  clear hH hlen hoct e1 e2 hh hk
  obtain ⟨x0, x1⟩ := hx
  have h15 : bits .and .u8 x 15 = x % 16 := u8_and15 x x0 x1
  generalize bs (hexT h 32) = S at *
  go_enter Try.func6, Try.ntmps6
  go_wp2_with (first | (refine wpList_load_blk rfl 23 _ rfl _ rfl hB Try.underlying23 rfl (by rw [size_hash, ints_length, HH.out]) ?_) | (go_at_call 15; refine (HC.out _).mono ?_; rintro e w2 ⟨rfl, hb2⟩) | (go_at_call 8; refine (l_shown _).mono ?_; rintro e w3 ⟨rfl, hb3⟩))
  rw [HK.out]
  have hc3 : w3.cell? ⟨w.heap.size, k, none⟩ = some (.int .u8 x) := by
    rw [hb3.cell (show w.heap.size < w2.heap.size by have := hb2.size; simp at this; omega), hb2.cell (by simp)]; exact hc
  have j1 : ∀ w, (Instr.index 9 (.string S) (.int .i64 (2 * (k : Int)))).run Try.prog w = .ok (.int .u8 (hexDigit (x / 16))) w := fun w => by
    have := i1 w
    rwa [show ((2 * k : Nat) : Int) = 2 * (k : Int) by omega] at this
  have j2 : ∀ w, (Instr.index 9 (.string S) (.int .i64 (2 * (k : Int) + 1))).run Try.prog w = .ok (.int .u8 (hexDigit (x % 16))) w := fun w => by
    have := i2 w
    rwa [show ((2 * k + 1 : Nat) : Int) = 2 * (k : Int) + 1 by omega] at this
  have k0 : (k : Int) < 32 := by omega
  have k1 : IntKind.i64.wrap (2 * (k : Int)) = 2 * (k : Int) := IntWalk.i64_in _ (by omega)
  have k2 : IntKind.i64.wrap (2 * (k : Int) + 1) = 2 * (k : Int) + 1 := IntWalk.i64_in _ (by omega)
  have hbel : Below w.heap.size w w3 := (((Below.refl _ _).alloc (Nat.le_refl _) _).trans (hb2.mono (by simp))).trans (hb3.mono (by have := hb2.size; simp at this; omega))
  have g1 : (x / 16 == x / 16) = true := by simp
  have g2 : (x % 16 == x % 16) = true := by simp
  have x2 : 0 ≤ x / 16 ∧ x / 16 < 16 := by omega
  have x3 : 0 ≤ x % 16 ∧ x % 16 < 16 := by omega
  clear i1 i2 hc hsz
  go_quiet (first | (go_at_call 18; exact Calls.quiet_of_same (l_digit _ _ x2.1 x2.2)) | (go_at_call 18; exact Calls.quiet_of_same (l_digit _ _ x3.1 x3.2)))
  go_wp2
  go_ret
  exact ⟨rfl, below_drewN hbel nq⟩
theorem own : ownKnob Try.prog.godebug = none := by kernel_rfl
theorem laidOut : laidOutB Try.prog = true := by kernel_rfl

/-- an array of bytes by value, opened -/
theorem open_bytes {H : Type} {enc : TypeId × Value → H} {P : Program} {w : World} {base : Nat} {spare : Nat → Bool} {held : Bool} {t e : TypeId} {n : Nat} {v : Value} {d : DataW H} {p : List MemPlace}
    (ht : P.underlying t = some (.array n e)) (he : P.underlying e = some (.int .u8)) (hce : P.cellsOf e = 1) (hct : P.cellsOf t = n) (cs : Array Value) (hv : v = .agg cs)
    (h : DataW.Trod enc P w base spare held t v d p) : ∃ l : List Int, v = .agg (ints .u8 l).toArray ∧ l.length = n ∧ Octets l := by
  subst hv
  obtain ⟨fuel, hf⟩ := h
  have hcells : (Value.agg cs).cells.toList = cs.toList := rfl
  rw [hcells] at hf
  obtain ⟨xs, m, _, _, hl, hxl, hall⟩ := DataW.trod_array ht hf
  rw [hct] at hl
  have hint : ∀ i (hi : i < n), ∃ k : Int, cs.toList[i]? = some (.int .u8 k) ∧ (0 ≤ k ∧ k < 256) := by
    intro i hi
    have h1 := hall i hi
    rw [hce, Nat.mul_one] at h1
    obtain ⟨x, hx⟩ : ∃ x, xs[i]? = some x := ⟨_, List.getElem?_eq_getElem (by omega)⟩
    rw [hx] at h1
    obtain ⟨k, e1, _, wk⟩ := DataW.trod_int he h1
    refine ⟨k, ?_, ?_⟩
    · have h2 : ((cs.toList.drop i).take 1)[0]? = some (.int .u8 k) := by rw [e1]; rfl
      simpa using h2
    · have := bounds_u8 wk
      omega
  refine ⟨cs.toList.map intOf, ?_, by simpa using hl, ?_⟩
  · congr 1
    apply Array.ext'
    apply List.ext_getElem?
    intro i
    by_cases hi : i < n
    · obtain ⟨k, hk, _⟩ := hint i hi
      simp only [ints, List.map_map, List.getElem?_map]
      rw [hk]; rfl
    · rw [List.getElem?_eq_none (by omega), List.getElem?_eq_none (by simp [ints]; simpa using (by omega : cs.toList.length ≤ i))]
  · intro x hx
    simp only [List.mem_map] at hx
    obtain ⟨u, hu, rfl⟩ := hx
    obtain ⟨i, hi, rfl⟩ := List.getElem_of_mem hu
    obtain ⟨k, hk, hb⟩ := hint i (by omega)
    rw [List.getElem?_eq_getElem hi] at hk
    have e : cs.toList[i] = .int .u8 k := by simpa using hk
    rw [e]
    exact hb
theorem cells_hash : Try.prog.cellsOf 23 = 32 := by kernel_rfl
theorem cells_u8 : Try.prog.cellsOf 5 = 1 := by kernel_rfl

set_option maxRecDepth 100000 in
theorem lifted (os : Os) (started : os.Started) (H : Type) (enc : TypeId × Value → H) :
    ReturnsInHanded {} Try.checked os 6 .any (Rows.digestHexSpec.pre6 enc Try.prog Try.f6 Rows.digestHexRow.domain false) (Rows.digestHexSpec.post enc Try.prog Try.f6 false true false false) := by
  refine returnsInHanded_of_change (C := Try.checked) own started (by kernel_rfl) Try.func6
    (ChangeSpec.witness6 (enc := enc) (C := Try.checked) false ⟨#[], #[.agg (ints .u8 (zer 32)).toArray, .int .u8 0], []⟩ 8 (by kernel_rfl) (by kernel_rfl) (by kernel_rfl) (by kernel_rfl)) ?_
  intro W base args ds gs before hval0 hW hcnd _
  have hval : ∀ (j : Nat) t v, Try.f6.params[j]? = some t → args[j]? = some v → Value.okWide Try.prog W .any base t v := hval0
  have hW' := hW
  obtain ⟨p, q, hA0, hV, rfl, hfz, hnd⟩ := hW
  have hA : DataW.TrodAll enc Try.prog W 0 (fun _ => true) true Try.f6.params.toList args.toList ds p := hA0
  rw [Try.params6] at hA hval
  obtain ⟨v0, vs0, d0, ds0, p0, q0, hargs, rfl, rfl, h0, r0⟩ := trodAll_cons hA
  obtain ⟨v1, vs1, d1, ds1, p1, q1, rfl, rfl, rfl, h1, r1⟩ := trodAll_cons r0
  obtain ⟨rfl, rfl, rfl⟩ := trodAll_nil r1
  obtain rfl : args = #[v0, v1] := by cases args; simp_all
  obtain ⟨rfl, rfl⟩ := trodVars_none hV
  have k0 := h0
  have lt0 : ∀ x ∈ p0, x.block < W.heap.size := by obtain ⟨m, hm⟩ := k0; exact DataW.trod_lt m _ _ _ hm
  obtain ⟨cs, hcs, _, _⟩ : ∃ cs, v0 = .agg cs ∧ cs.size = Try.prog.cellsOf 23 ∧ Row.okWide Try.prog W .any base 23 cs := by
    have := hval 0 23 v0 rfl rfl
    simpa [Value.okWide, Try.underlying23] using this
  obtain ⟨l, hl, hlen, hoct⟩ := open_bytes Try.underlying23 Try.underlying5 cells_u8 cells_hash cs hcs h0
  clear hcs
  subst hl
  obtain ⟨a1, rfl, rfl, rfl, w1⟩ := open_int Try.underlying5 (hval 1 5 v1 rfl rfl) h1
  clear hA0 hval0
  refine (walk l hlen hoct a1 w1 W).mono fun e W' ⟨he, bel⟩ => ?_
  subst he
  exact ⟨_, rfl, _, _, _, [], _, [], hW', trodAll_mk1 (shut_bool Try.underlying4 _), (trodAll_cons_mk (Below.trod laidOut (by kernel_rfl) (of_decide_eq_true (by kernel_rfl)) k0 bel lt0) (trodAll_cons_mk (shut_int Try.underlying5 w1) trodAll_mk0)), rfl, bel.frame _, fun h => by cases h⟩

theorem over : Rows.digestHexRow.holds Try.pinned (OpenSpec.ofChange Rows.digestHexSpec) :=
  OpenClaim.holds_of_wide 6 Try.f6 rfl rfl rfl rfl rfl rfl rfl ⟨rfl, rfl, rfl, rfl, rfl⟩ rfl rfl rfl rfl rfl (by kernel_rfl) Try.func6 (by kernel_rfl)
    (of_decide_eq_true (by kernel_rfl)) (by unfold Func.isWrapper; first | (rw [if_pos (by decide +kernel)]; kernel_rfl) | (rw [if_neg (by decide +kernel)]; exact ⟨rfl, rfl⟩))
    (fun os started H enc _ => lifted os started H enc)

theorem proved : Rows.DigestHexSaid := over
#print axioms proved
end Go.Proofs.Ytofgjplcpdgedaa.digestHex
