/- Walks of each and Join. -/
import Derived.Test.YtloncdnnblkpdaaWJn
namespace Go.Proofs.Ytloncdnnblkpdaa
open Go.RowKit
set_option linter.unusedVariables false

def EachRet (w0 : World) (J : Nat) (most : Int) (out : List Nat) (er : Nat) (e : Ending) (w' : World) : Prop := e = .returned (.int .i64 (er : Int)) ∧ (er = 0 → ∃ v', JW w' w0.heap.size J most v' out) ∧ Below w0.heap.size w0 w'
set_option maxRecDepth 100000 in
set_option maxHeartbeats 2000000 in
theorem j_each (T : List (Nat × Int × Int)) (p : Option Addr) (cap : Nat) (w0 w : World) (hS : Sl w0 3 (.slice p T.length cap) (rowsT T)) (hl : T.length ≤ 20000) (hb : Below w0.heap.size w0 w) (J : Nat) (most : Int) (v : Value) (h : JW w w0.heap.size J most v []) (out : List Nat) (er : Nat) (hR : joinW most T [] = (out, er)) :
    Calls Try.prog 22 #[.slice p T.length cap, .func (.func 23) #[.pointer (some ⟨J, 0, none⟩)] #[]] w (EachRet w0 J most out er) := by
  have HS := Lib.hid hS
  have HB := Lib.hid hb
  have H := Lib.hid h
  have HR := Lib.hid hR
  clear hS hb h hR
  go_enter Try.func22, Try.ntmps22
  go_wp2
  go_loopw [10] (fun i wr => ∃ (j : Nat) (v1 : Value) (b : List Nat), j ≤ T.length ∧ i = .int .i64 (j : Int) ∧ JW wr w0.heap.size J most v1 b ∧ joinW most (T.drop j) b = joinW most T [] ∧ b.length ≤ 34 * j ∧ Below w0.heap.size w0 wr) (fun i _ => T.length - (intOf i).toNat)
  case atStart => exact ⟨0, v, [], by omega, rfl, H.out, rfl, by simp, HB.out⟩
  case round =>
    obtain ⟨j, v1, b, hj, rfl, gJ, gR, gl, gb⟩ := hrel
    clear H HB
    by_cases hlt : j < T.length
    · have d1 : (j : Int) < (T.length : Int) := by omega
      obtain ⟨a, rfl, hc⟩ := (HS.out.below gb).row (rowsT_at hlt)
      have hdr : T.drop j = T[j] :: T.drop (j + 1) := List.drop_eq_getElem_cons hlt
      have hsl := step_len most T[j] b
      rw [hdr, join_cons] at gR
      obtain ⟨⟨c, n, k⟩, ht⟩ : ∃ t, T[j] = t := ⟨_, rfl⟩
      obtain ⟨⟨er1, b1⟩, hst⟩ : ∃ r, stepW most T[j] b = r := ⟨_, rfl⟩
      rw [hst] at gR hsl
      rw [ht] at hc hst
      simp only at gR hsl
      have K4 := Blk.new' wr 42 (c := #[.int .u8 0, .int .i64 0, .int .i64 0]) [.int .u8 0, .int .i64 0, .int .i64 0] rfl
      have K5 := K4.row (rowT (c, n, k)) rfl
      obtain ⟨w5, hw5⟩ : ∃ w5, (wr.alloc (.cells #[.int .u8 0, .int .i64 0, .int .i64 0] 42)).setRow wr.heap.size (rowT (c, n, k)).toArray = w5 := ⟨_, rfl⟩
      have hb5 : Below wr.heap.size wr w5 := by rw [← hw5]; exact below_setRow ((Below.refl _ _).alloc (Nat.le_refl _) _) (Nat.le_refl _) _
      rw [hw5] at K5
      have gJ5 := gJ.below hb5
      have gb5 := gb.trans (hb5.mono gb.size)
      have hP := j_put gJ5 (c, n, k) (by omega) er1 b1 hst
      simp only at hP
      have HC := Lib.hid hc
      have HP := Lib.hid hP
      have KK4 := Lib.hid K4
      have KK5 := Lib.hid K5
      have HW5 := Lib.hid hw5
      have GB := Lib.hid gb5
      have GR := Lib.hid gR
      clear hc hP K4 K5 hw5 gb5 gR gb hb5 gJ gJ5 hst ht hdr
      go_wp2_with (first | (refine wpList_load_addr rfl 42 _ rfl _ rfl (rowT (c, n, k)) HC.out Try.underlying42 rfl size_tk ?_) | (refine wpList_store_blk rfl 42 _ _ rfl wr.heap.size (rowT (c, n, k)) rfl rfl KK4.out size_tk rfl (rowT_one _) ?_; rw [HW5.out]) | (refine wpList_load_blk rfl 42 _ rfl wr.heap.size rfl KK5.out Try.underlying42 rfl size_tk ?_; rw [rowT_arr]))
      (with_reducible refine HP.out.mono ?_)
      rintro e w6 ⟨rfl, hJ6, hb6⟩
      have HJ6 := Lib.hid hJ6
      have GB6 := Lib.hid (GB.out.trans hb6)
      clear hJ6 hb6 HP GB
      by_cases he : er1 = 0
      · subst he
        have hR := GR.out
        rw [if_pos rfl] at hR
        obtain ⟨v6, hJ⟩ := HJ6.out rfl
        have HJ := Lib.hid hJ
        have GR2 := Lib.hid hR
        clear hJ hR GR HJ6
        go_wp2
        go_roundw
        case rel => exact ⟨j + 1, v6, b1, by omega, by go_num, HJ.out, GR2.out, by omega, GB6.out⟩
        case measure => (simp [intOf]; try omega)
      · have e0 : ((er1 : Int) != 0) = true := by rw [bne_iff_ne]; omega
        have hR := GR.out
        rw [if_neg he, HR.out] at hR
        cases hR
        clear HJ6 he
        go_wp2
        go_ret
        exact ⟨rfl, (fun h => by rw [h] at e0; cases e0), GB6.out⟩
    · obtain rfl : j = T.length := by omega
      rw [List.drop_length, HR.out] at gR
      cases gR
      have GJ := Lib.hid gJ
      have GB := Lib.hid gb
      clear gJ gb
      go_wp2
      go_ret
      exact ⟨rfl, fun _ => ⟨v1, GJ.out⟩, GB.out⟩
theorem rowsB_flat (l : List Nat) : (rowsB l).flatten = ints .u8 (nn l) := by
  induction l with
  | nil => rfl
  | cons n l ih =>
    have e : rowsB (n :: l) = [.int .u8 (n : Int)] :: rowsB l := rfl
    rw [e, List.flatten_cons, ih]
    rfl
theorem own_bytes {w : World} {B : Nat} {e : TypeId} {v : Value} {b : List Nat} (h : OwnR w B e 1 v (rowsB b)) : OwnB w B e v (nn b) := by
  have := h.2
  rw [rowsB_flat, rowsB_len] at this
  unfold OwnB
  rw [nn_length]
  exact this
theorem build_jd (n : Int) (w : World) : (Instr.build 53 #[(1, .int .i64 n)]).run Try.prog w = .ok (.agg #[.slice none 0 0, .int .i64 n]) w := by kernel_rfl
set_option maxRecDepth 100000 in
set_option maxHeartbeats 2000000 in
theorem j_Join (T : List (Nat × Int × Int)) (p : Option Addr) (cap : Nat) (most : Int) (w : World) (hS : Sl w 3 (.slice p T.length cap) (rowsT T)) (hl : T.length ≤ 20000) (out : List Nat) (er : Nat) (hR : joinW most T [] = (out, er)) :
    Calls Try.prog 15 #[.slice p T.length cap, .int .i64 most] w fun e w' => e = .returned (.tuple #[.string (tx out), .int .i64 (er : Int)]) ∧ Below w.heap.size w w' := by
  have hmf := mkf
  have hbj := build_jd
  have K := Blk.new' w 53 (c := #[.slice none 0 0, .int .i64 most]) [.slice none 0 0, .int .i64 most] rfl
  have hb := (Below.refl w.heap.size w).alloc (Nat.le_refl _) (.cells #[.slice none 0 0, .int .i64 most] 53)
  have hJ : JW (w.alloc (.cells #[.slice none 0 0, .int .i64 most] 53)) w.heap.size w.heap.size most (.slice none 0 0) [] := ⟨K, OwnR.nil _ _ _ _, Nat.le_refl _⟩
  have hE := j_each T p cap w _ hS hl hb w.heap.size most _ hJ out er hR
  have HE := Lib.hid hE
  have hout : er ≠ 0 → out = [] := by
    intro he
    have : ∀ (T : List (Nat × Int × Int)) (b : List Nat), (joinW most T b).2 ≠ 0 → (joinW most T b).1 = [] := by
      intro T
      induction T with
      | nil => intro b h; exact absurd rfl h
      | cons t T ih =>
        intro b h
        rw [join_cons] at h ⊢
        split
        · rename_i h1
          rw [if_pos h1] at h
          exact ih _ h
        · rfl
    have h := this T [] (by rw [hR]; exact he)
    rw [hR] at h
    exact h
  have HO := Lib.hid hout
  clear K hb hJ hE hS hR hout
  go_enter Try.func15, Try.ntmps15
  go_wp2_with fail
  (with_reducible refine HE.out.mono ?_)
  rintro e w1 ⟨rfl, hJ1, hb1⟩
  have HB1 := Lib.hid hb1
  clear hb1 HE
  by_cases he : er = 0
  · subst he
    obtain ⟨v, hJ⟩ := hJ1 rfl
    have c0 := hJ.blk.cell 0
    simp only [List.getElem?_cons_zero] at c0
    have HOW := Lib.hid (own_bytes hJ.own)
    obtain ⟨pa, ca, hv⟩ := hJ.own.isSlice
    obtain ⟨N, hN⟩ : ∃ N, (rowsB out).length = N := ⟨_, rfl⟩
    rw [hN] at hv
    subst hv
    clear hJ hJ1 hN
    go_wp2_with (refine wpList_string_own rfl 37 9 5 _ rfl w.heap.size _ (nn out) rfl Try.underlying37 Try.underlying5 Try.underlying9 HOW.out ?_)
    go_ret2
    exact ⟨rfl, HB1.out⟩
  · have e0 : ((er : Int) != 0) = true := by rw [bne_iff_ne]; omega
    have ho := HO.out he
    subst ho
    clear he hJ1
    go_wp2
    go_ret2
    exact ⟨rfl, HB1.out⟩
end Go.Proofs.Ytloncdnnblkpdaa
