/- Walks of what places are asked: may a match begin there, which bytes, the last place with them, how far the same. -/
import Derived.Test.YtpjihjbgihionaaN1
import Derived.Test.YtpjihjbgihionaaG2
import Derived.Test.YtpjihjbgihionaaJ1
import Derived.Test.YtpjihjbgihionaaG1
import Derived.IntWalk
import Derived.Defers
import Derived.BigQuiet
import Derived.Maps.AppendAt
namespace Go.Proofs.Ytpjihjbgihionaa
open Go.RowKit
open Go.Maps (Keyed string_keyed)
set_option linter.unusedVariables false

/-- numbers as rows of one cell -/
def rowsZ (l : List Int) : List (List Value) := l.map fun n => [.int .i64 n]
theorem rowsZ_len (l : List Int) : (rowsZ l).length = l.length := by simp [rowsZ]
theorem rowsZ_at {l : List Int} {j : Nat} (h : j < l.length) : (rowsZ l)[j]? = some [.int .i64 (l.getD j 0)] := by simp [rowsZ, h]
theorem rowsZ_app (a b : List Int) : rowsZ (a ++ b) = rowsZ a ++ rowsZ b := by simp [rowsZ]
theorem SlZ.cell {w : World} {p : Option Addr} {n cap : Nat} {l : List Int} (h : Sl w 1 (.slice p n cap) (rowsZ l)) {j : Nat} (hj : j < l.length) : ∃ a : Addr, p = some a ∧ w.cell? (a.add j) = some (.int .i64 (l.getD j 0)) := by
  obtain ⟨a, e, hc⟩ := h.row (rowsZ_at hj)
  exact ⟨a, e, by have := hc 0 _ rfl; rw [Nat.mul_one] at this; exact this⟩
/-- what a places' variable has -/
def plc (s : ByteArray) (M : Nat) (v : Value) : List Value := [.string s, .map (some M), v]
/-- block P is a places of the text s with n places, its map in block M, its slice v -/
structure PlW (w : World) (B P M : Nat) (v : Value) (s : ByteArray) (n : Nat) : Prop where
  blk : Blk w P 99 (plc s M v)
  map : w.ownsMap Try.prog 9 (plainElem (H := Unit) Try.prog 3) M n (mapW (sl s) n)
  own : OwnR w B 3 1 v (rowsZ (aheadW (sl s) n))
  hP : B ≤ P
  hM : B ≤ M
theorem law_str : Keyed Try.prog 9 := string_keyed Try.underlying9
theorem zero_int (w : World) : (zeroValue 3).run Try.prog w = .ok (.int .i64 0) w := by kernel_rfl
theorem part_tx (s : ByteArray) (i k : Nat) : s.extract i (i + k) = tx (((sl s).drop i).take k) := by
  rw [← tx_sl (s.extract i (i + k))]
  congr 1
  simp [sl, ByteArray.data_extract, List.map_take, List.map_drop]
theorem p_mayMatch (P : Nat) (s : ByteArray) (m v : Value) (i : Nat) (b : Bool) (w : World) (hB : Blk w P 99 [.string s, m, v]) (hi : i ≤ 1000000000) (hs : s.size ≤ 1000000000) (hb : (b = true ∧ i + 3 ≤ s.size) ∨ (b = false ∧ s.size < i + 3)) :
    Calls Try.prog 52 #[.pointer (some ⟨P, 0, none⟩), .int .i64 (i : Int)] w fun e w' => e = .returned (.bool b) ∧ w' = w := by
  have c0 := hB.cell 0
  simp only [List.getElem?_cons_zero] at c0
  have i1 : (s.size : Int) ≤ 1000000000 := by omega
  rcases hb with ⟨rfl, h⟩ | ⟨rfl, h⟩
  · have g1 : decide ((i : Int) ≤ (s.size : Int) - 3) = true := by simp; omega
    clear hB h
    go_enter Try.func52, Try.ntmps52
    go_wp2
    go_ret
    exact ⟨rfl, rfl⟩
  · have g1 : decide ((i : Int) ≤ (s.size : Int) - 3) = false := by simp; omega
    clear hB h
    go_enter Try.func52, Try.ntmps52
    go_wp2
    go_ret
    exact ⟨rfl, rfl⟩
theorem p_first (P : Nat) (s : ByteArray) (m v : Value) (i : Nat) (w : World) (hB : Blk w P 99 [.string s, m, v]) (hi : i + 3 ≤ s.size) (hs : s.size ≤ 1000000000) :
    Calls Try.prog 54 #[.pointer (some ⟨P, 0, none⟩), .int .i64 (i : Int)] w fun e w' => e = .returned (.string (tx (keyW (sl s) i))) ∧ w' = w := by
  have c0 := hB.cell 0
  simp only [List.getElem?_cons_zero] at c0
  have hx : s.extract i (i + 3) = tx (keyW (sl s) i) := part_tx s i 3
  have e1 : ((i : Int) + 3).toNat = i + 3 := by omega
  have i1 : (i : Int) + 3 ≤ (s.size : Int) := by omega
  have HX := Lib.hid hx
  clear hB hx
  go_enter Try.func54, Try.ntmps54
  go_wp2
  go_ret
  exact ⟨by rw [← HX.out]; rfl, rfl⟩
/-- what the map says of three bytes -/
theorem look_key {w : World} {M : Nat} {s : ByteArray} {n : Nat} (h : w.ownsMap Try.prog 9 (plainElem (H := Unit) Try.prog 3) M n (mapW (sl s) n)) (i : Nat) (hi : i + 3 ≤ s.size) :
    (Instr.lookup 97 (.map (some M)) (.string (tx (keyW (sl s) i))) true).run Try.prog w = .ok (.tuple #[.int .i64 (if lastW (sl s) i n = -1 then 0 else lastW (sl s) i n), .bool (decide (lastW (sl s) i n ≠ -1))]) w := by
  have hk := keyW_bys (sl_bys s) i
  have hkey : keyOf Try.prog 9 (.string (tx (keyW (sl s) i))) = some (kLit (keyW (sl s) i)) := by
    rw [Go.WideMaps.keyOf_string_mk Try.underlying9 (by rw [tx_size, keyW_len (by rw [sl_len]; exact hi)]; decide), kLit_tx hk]
  obtain ⟨v', ps, hrun, hv⟩ := h.look_ok law_str Try.underlying97 (zero_int w) (plainElem_int Try.underlying3 (by decide)) hkey
  obtain ⟨c, rfl, hc, hwc⟩ := plainElem_int_inv Try.underlying3 hv
  rw [hrun]
  have hc' := congrArg Prod.fst hc
  rcases mapW_has (sl_bys s) i n with ⟨h1, h2⟩ | ⟨h1, h2, h3⟩
  · rw [Maps.atKey_of_not_has h2] at hc'
    simp only [DataW.lit.injEq, Lit.int.injEq, true_and] at hc'
    rw [h2, if_pos h1, ← hc', decide_eq_false (by rw [h1]; simp)]
  · rw [h3] at hc'
    simp only [DataW.lit.injEq, Lit.int.injEq, true_and] at hc'
    rw [h2, if_neg (by omega), hc', decide_eq_true (by rw [← hc']; omega)]
theorem PlW.drewN {w : World} {B P M : Nat} {v : Value} {s : ByteArray} {n : Nat} (h : PlW w B P M v s n) (k : Nat) : PlW (w.drewN k) B P M v s n := ⟨h.blk.drewN k, h.map, h.own, h.hP, h.hM⟩
set_option maxRecDepth 100000 in
theorem p_lastOf {w : World} {P M : Nat} {v : Value} {s : ByteArray} {n : Nat} (hB : Blk w P 99 (plc s M v)) (h : w.ownsMap Try.prog 9 (plainElem (H := Unit) Try.prog 3) M n (mapW (sl s) n)) (i : Nat) (hi : i + 3 ≤ s.size) (hs : s.size ≤ 1000000000) :
    Calls Try.prog 53 #[.pointer (some ⟨P, 0, none⟩), .int .i64 (i : Int)] w fun e w' => e = .returned (.int .i64 (lastW (sl s) i n)) ∧ ∃ k, w' = w.drewN k := by
  have c1 := hB.cell 1
  simp only [plc, List.getElem?_cons_zero, List.getElem?_cons_succ] at c1
  have hF := fun k => p_first P s (.map (some M)) v i (w.drewN k) (hB.drewN k) hi hs
  have HF := Lib.hid hF
  have hL := fun k => look_key (w := w.drewN k) h i hi
  clear hF h hB hi hs
  generalize tx (keyW (sl s) i) = key at *
  generalize lastW (sl s) i n = f at *
  by_cases hf : f = -1
  rotate_left
  · rw [if_neg hf, decide_eq_true hf] at hL
    go_enter Try.func53, Try.ntmps53
    go_wp2
    go_quiet ((go_at_call 54; exact Calls.quiet_of_same (HF.out _)))
    go_wp2
    go_ret
    exact ⟨rfl, _, rfl⟩
  · subst hf
    rw [if_pos rfl, decide_eq_false (by simp)] at hL
    go_enter Try.func53, Try.ntmps53
    go_wp2
    go_quiet ((go_at_call 54; exact Calls.quiet_of_same (HF.out _)))
    go_wp2
    go_ret
    exact ⟨rfl, _, rfl⟩
end Go.Proofs.Ytpjihjbgihionaa
namespace Go.Proofs.Ytpjihjbgihionaa
open Go.RowKit
set_option linter.unusedVariables false

theorem same_three {L : List Nat} {f p : Nat} (hf : f + 3 ≤ L.length) (hp : p + 3 ≤ L.length) (h : keyW L f = keyW L p) : ∀ i, i < 3 → L.getD (f + i) 0 = L.getD (p + i) 0 := (keyW_iff hf hp).1 h
theorem index_at (s : ByteArray) (a n x : Nat) (hj : a + n < s.size) (hx : (sl s).getD (a + n) 0 = x) (w : World) :
    (Instr.index 9 (.string s) (.int .i64 ((a : Int) + (n : Int)))).run Try.prog w = .ok (.int .u8 (x : Int)) w := by
  have := index_sl s .i64 (a + n) hj w
  rw [hx] at this
  simpa using this
set_option maxRecDepth 100000 in
set_option maxHeartbeats 1000000 in
theorem p_run (P : Nat) (s : ByteArray) (m v : Value) (f p : Nat) (w : World) (hB : Blk w P 99 [.string s, m, v]) (hf : f < p) (hp : p + 3 ≤ s.size) (hk : keyW (sl s) f = keyW (sl s) p) (hs : s.size ≤ 1000000000) :
    Calls Try.prog 79 #[.pointer (some ⟨P, 0, none⟩), .int .i64 (f : Int), .int .i64 (p : Int)] w fun e w' => e = .returned (.int .i64 ((runW (sl s) 34 f p : Nat) : Int)) ∧ ∃ k, w' = w.drewN k := by
  have c0 := hB.cell 0
  simp only [List.getElem?_cons_zero] at c0
  have h3 := same_three (by rw [sl_len]; omega) (by rw [sl_len]; omega) hk
  have H3 := Lib.hid h3
  have i1 : (s.size : Int) ≤ 1000000000 := by omega
  have i2 : (p : Int) + 3 ≤ (s.size : Int) := by omega
  have i3 : (f : Int) < (p : Int) := by omega
  clear hB hk h3
  go_enter Try.func79, Try.ntmps79
  go_wp2
  go_loopw [7] (fun i wr => ∃ n : Nat, 3 ≤ n ∧ n ≤ 34 ∧ p + n ≤ s.size ∧ i = .int .i64 (n : Int) ∧ (∀ i, i < n → (sl s).getD (f + i) 0 = (sl s).getD (p + i) 0) ∧ ∃ k, wr = w.drewN k) (fun i _ => 34 - (intOf i).toNat)
  case atStart => exact ⟨3, by omega, by omega, hp, rfl, H3.out, 0, rfl⟩
  case round =>
    obtain ⟨n, hn3, hn34, hpn, rfl, hsm, k0, rfl⟩ := hrel
    have stop : ∀ h : (n = 34 ∨ s.size ≤ p + n ∨ (sl s).getD (f + n) 0 ≠ (sl s).getD (p + n) 0), runW (sl s) 34 f p = n := fun h => run_stop hn34 (by rw [sl_len]; exact hpn) hsm (by rw [sl_len]; exact h)
    have STOP := Lib.hid stop
    have HSM := Lib.hid hsm
    clear H3 hsm stop
    by_cases h1 : n = 34
    · subst h1
      have hst := Lib.hid (STOP.out (.inl rfl))
      have d1 : decide (((34 : Nat) : Int) < 34) = false := by decide
      have d1' : decide ((34 : Nat) < 34) = false := by decide
      clear STOP
      go_wp2_with fail
      go_quiet (fail)
      go_wp2
      go_ret
      exact ⟨by rw [hst.out]; rfl, by first | exact ⟨_, World.drewN_drewN ..⟩ | exact ⟨_, rfl⟩⟩
    · have d1 : decide ((n : Int) < 34) = true := by simp; omega
      have d1' : decide (n < 34) = true := by simp; omega
      by_cases h2 : s.size ≤ p + n
      · have hst := Lib.hid (STOP.out (.inr (.inl h2)))
        have d2 : decide ((p : Int) + (n : Int) < (s.size : Int)) = false := by simp; omega
        have d2' : decide (p + n < s.size) = false := by simp; omega
        clear STOP h1 h2
        go_wp2_with fail
        go_quiet (fail)
        go_wp2
        go_ret
        exact ⟨by rw [hst.out]; rfl, by first | exact ⟨_, World.drewN_drewN ..⟩ | exact ⟨_, rfl⟩⟩
      · have d2 : decide ((p : Int) + (n : Int) < (s.size : Int)) = true := by simp; omega
        have d2' : decide (p + n < s.size) = true := by simp; omega
        obtain ⟨x, hx⟩ : ∃ x, (sl s).getD (f + n) 0 = x := ⟨_, rfl⟩
        obtain ⟨y, hy⟩ : ∃ y, (sl s).getD (p + n) 0 = y := ⟨_, rfl⟩
        have hX := index_at s f n x (by omega) hx
        have hY := index_at s p n y (by omega) hy
        by_cases h3 : x = y
        · subst h3
          have d3 : decide ((x : Int) = (x : Int)) = true := by simp
          have d3' : ((x : Int) == (x : Int)) = true := by simp
          have hsm' : ∀ i, i < n + 1 → (sl s).getD (f + i) 0 = (sl s).getD (p + i) 0 := fun i hi => by
            rcases Nat.lt_or_ge i n with h | h
            · exact HSM.out i h
            · obtain rfl : i = n := by omega
              rw [hx, hy]
          have HS := Lib.hid hsm'
          clear STOP hsm' hx hy
          go_wp2_with fail
          go_quiet (fail)
          go_wp2
          go_roundw
          case rel => exact ⟨n + 1, by omega, by omega, by omega, by go_num, HS.out, by first | exact ⟨_, World.drewN_drewN ..⟩ | exact ⟨_, rfl⟩⟩
          case measure => (simp [intOf]; try omega)
        · have hst := Lib.hid (STOP.out (.inr (.inr (by rw [hx, hy]; exact h3))))
          have d3 : decide ((x : Int) = (y : Int)) = false := by simp; omega
          have d3' : ((x : Int) == (y : Int)) = false := by rw [beq_eq_false_iff_ne]; omega
          clear STOP h1 h2 h3 hx hy
          go_wp2_with fail
          go_quiet (fail)
          go_wp2
          go_ret
          exact ⟨by rw [hst.out]; rfl, by first | exact ⟨_, World.drewN_drewN ..⟩ | exact ⟨_, rfl⟩⟩
/-- the same world, behind some draws -/
def DrW (w w' : World) : Prop := ∃ k, w' = w.drewN k
theorem DrW.refl (w : World) : DrW w w := ⟨0, rfl⟩
theorem DrW.trans {a b c : World} (h : DrW a b) (h2 : DrW b c) : DrW a c := by
  obtain ⟨k, rfl⟩ := h
  obtain ⟨l, rfl⟩ := h2
  exact ⟨k + l, by rw [World.drewN_drewN]⟩
theorem DrW.below {w w' : World} (h : DrW w w') : Below w.heap.size w w' := by
  obtain ⟨k, rfl⟩ := h
  exact below_drewN (Below.refl _ _) k
theorem PlW.drw {w w' : World} {B P M : Nat} {v : Value} {s : ByteArray} {n : Nat} (h : PlW w B P M v s n) (hd : DrW w w') : PlW w' B P M v s n := by
  obtain ⟨k, rfl⟩ := hd
  exact h.drewN k
theorem seek_le {s : List Nat} {p : Nat} {f : Int} {m : Nat × Nat} (h : SeekW s p f m) : m.1 ≤ 34 ∧ m.2 ≤ p := by
  obtain ⟨q, h1, h2, rfl, _⟩ := h
  have : ∀ k, k ≤ p → (best3 s p k).1 ≤ 34 ∧ (best3 s p k).2 ≤ p := fun k => by
    induction k with
    | zero => intro _; exact ⟨by show 0 ≤ 34; omega, by show 0 ≤ p; omega⟩
    | succ k ih =>
      intro hk
      unfold best3
      split
      · exact ⟨runW_le _ _ _ _, hk⟩
      · exact ih (by omega)
  exact this _ (by omega)
set_option maxRecDepth 100000 in
set_option maxHeartbeats 1000000 in
theorem p_match {w : World} {B P M : Nat} {v : Value} {s : ByteArray} {n : Nat} (h : PlW w B P M v s n) (p : Nat) (hp : p < s.size) (hn : p + 3 ≤ s.size → n = p) (hs : s.size ≤ 1000000000) :
    Calls Try.prog 55 #[.pointer (some ⟨P, 0, none⟩), .int .i64 (p : Int)] w fun e w' => e = .returned (.tuple #[.int .i64 ((matchW (sl s) p).1 : Int), .int .i64 ((matchW (sl s) p).2 : Int)]) ∧ DrW w w' := by
  by_cases hmay : p + 3 ≤ s.size
  · obtain rfl : n = p := hn hmay
    have hM := p_mayMatch P s (.map (some M)) v n true w h.blk (by omega) hs (.inl ⟨rfl, hmay⟩)
    have hL := p_lastOf h.blk h.map n hmay hs
    have hS := SeekW.first (s := sl s) (p := n) (by rw [sl_len]; exact hmay)
    have HM := Lib.hid hM
    have HL := Lib.hid hL
    have HS := Lib.hid hS
    have H := Lib.hid h
    have hn9 : n ≤ 1000000000 := by omega
    clear hM hL hS h hn
    go_enter Try.func55, Try.ntmps55
    go_wp2_with fail
    (with_reducible refine HM.out.mono ?_)
    rintro e w1 ⟨rfl, rfl⟩
    go_wp2_with fail
    (with_reducible refine HL.out.mono ?_)
    rintro e w2 ⟨rfl, hd2⟩
    have H2 := Lib.hid (H.out.drw hd2)
    have HD2 : Hid (DrW w1 w2) := Lib.hid hd2
    clear hd2 HM HL
    go_wp2_with fail
    go_loopw [6, 7, 8] (fun l b f wr => ∃ (i : Int) (m : Nat × Nat), l = .int .i64 (m.1 : Int) ∧ b = .int .i64 (m.2 : Int) ∧ f = .int .i64 i ∧ SeekW (sl s) n i m ∧ PlW wr B P M v s n ∧ DrW w1 wr) (fun _ _ f _ => (intOf f + 1).toNat)
    case atStart => exact ⟨_, (0, 0), rfl, rfl, rfl, HS.out, H2.out, HD2.out⟩
    case round =>
      obtain ⟨i, m, rfl, rfl, rfl, gS, gP, gD⟩ := hrel
      clear HS H2 HD2 H
      have hm := seek_le gS
      rcases gS.cases with rfl | ⟨f, rfl, hfn⟩
      · have hdone := gS.done (by rw [sl_len]; omega) (.inl rfl)
        have HD := Lib.hid hdone
        clear gS hm hdone
        go_wp2
        go_ret2
        exact ⟨by rw [← HD.out]; rfl, gD⟩
      · have e1 : ((f : Int) != -1) = true := by rw [bne_iff_ne]; omega
        by_cases h512 : n - f ≤ 512
        · have d2 : decide ((n : Int) - (f : Int) ≤ 512) = true := by simp; omega
          have hk := gS.key
          have hR := p_run P s (.map (some M)) v f n wr gP.blk hfn hmay hk.2 hs
          have hnx := gS.next (by rw [sl_len]; exact hmay) hfn h512
          obtain ⟨r, hr⟩ : ∃ r, runW (sl s) 34 f n = r := ⟨_, rfl⟩
          have hr34 : r ≤ 34 := by rw [← hr]; exact runW_le _ _ _ _
          rw [hr] at hR hnx
          have HR := Lib.hid hR
          have HNX := Lib.hid hnx
          have GP := Lib.hid gP
          have GD := Lib.hid gD
          clear hR hnx gS hk gP gD hr
          go_wp2_with fail
          (with_reducible refine HR.out.mono ?_)
          rintro e w3 ⟨rfl, hd3⟩
          have hP3 := GP.out.drw hd3
          have hD3 : DrW w1 w3 := GD.out.trans hd3
          obtain ⟨pa, cap, hv⟩ := hP3.own.isSlice
          rw [rowsZ_len, aheadW_len] at hv
          subst hv
          have hsl := hP3.own.sl
          obtain ⟨a, rfl, hc⟩ := SlZ.cell hsl (j := f) (by rw [aheadW_len]; exact hfn)
          rw [aheadW_get _ hfn] at hc
          have c2 := hP3.blk.cell 2
          simp only [plc, List.getElem?_cons_zero, List.getElem?_cons_succ] at c2
          have hb := lastW_lt (sl s) f f
          generalize lastW (sl s) f f = g at *
          have HB := Lib.hid hb
          have HP3 := Lib.hid hP3
          have HD3 := Lib.hid hD3
          clear hP3 hD3 hsl GP GD HR hd3
          have i1 : (f : Int) < (n : Int) := by omega
          have i2 : (n : Int) ≤ 1000000000 := by omega
          by_cases hlt : m.1 < r
          · have hnx := HNX.out
            rw [if_pos hlt] at hnx
            have HNX2 := Lib.hid hnx
            have d3 : decide ((m.1 : Int) < (r : Int)) = true := by simp; omega
            have i3 : (m.1 : Int) < (r : Int) := by omega
            have e4 : ((n - f : Nat) : Int) = (n : Int) - (f : Int) := by omega
            have E4 := Lib.hid e4
            clear HNX hnx hlt hb e4
            go_wp2
            go_roundw
            case rel => exact ⟨g, (r, n - f), by first | rfl | go_num, by rw [E4.out], rfl, HNX2.out, HP3.out, HD3.out⟩
            case measure => (have := HB.out; simp [intOf]; try omega)
          · have hnx := HNX.out
            rw [if_neg hlt] at hnx
            have HNX2 := Lib.hid hnx
            have d3 : decide ((m.1 : Int) < (r : Int)) = false := by simp; omega
            have i3 : ¬ (m.1 : Int) < (r : Int) := by omega
            clear HNX hnx hlt hb
            go_wp2
            go_roundw
            case rel => exact ⟨g, m, rfl, rfl, rfl, HNX2.out, HP3.out, HD3.out⟩
            case measure => (have := HB.out; simp [intOf]; try omega)
        · have d2 : decide ((n : Int) - (f : Int) ≤ 512) = false := by simp; omega
          have hdone := gS.done (by rw [sl_len]; omega) (.inr (by omega))
          have HD := Lib.hid hdone
          clear gS hm hdone h512
          go_wp2
          go_ret2
          exact ⟨by rw [← HD.out]; rfl, gD⟩
  · have hM := p_mayMatch P s (.map (some M)) v p false w h.blk (by omega) hs (.inr ⟨rfl, by omega⟩)
    have he := match_end (s := sl s) (p := p) (by rw [sl_len]; omega)
    have HM := Lib.hid hM
    have HE := Lib.hid he
    clear hM he h hn hmay
    go_enter Try.func55, Try.ntmps55
    go_wp2_with fail
    (with_reducible refine HM.out.mono ?_)
    rintro e w1 ⟨rfl, rfl⟩
    go_wp2
    go_ret2
    exact ⟨by rw [HE.out]; rfl, DrW.refl _⟩
end Go.Proofs.Ytpjihjbgihionaa
namespace Go.Proofs.Ytpjihjbgihionaa
open Go.RowKit
set_option linter.unusedVariables false

set_option maxRecDepth 100000 in
theorem p_newPlaces (s : ByteArray) (w : World) :
    Calls Try.prog 26 #[.string s] w fun e w' => e = .returned (.pointer (some ⟨w.heap.size + 1, 0, none⟩)) ∧ PlW w' w.heap.size (w.heap.size + 1) w.heap.size (.slice none 0 0) s 0 ∧ Below w.heap.size w w' := by
  have hmm := @run_makeMap Try.prog
  have k1 := World.ownsMap_made (H := Unit) w Try.prog 9 (plainElem (H := Unit) Try.prog 3)
  have k2 := k1.alloc (.cells #[.string s, .map (some w.heap.size), .slice none 0 0] 99)
  have k3 : Blk ((w.alloc (.map #[] 0)).alloc (.cells #[.string s, .map (some w.heap.size), .slice none 0 0] 99)) (w.heap.size + 1) 99 (plc s w.heap.size (.slice none 0 0)) := Blk.new2 w _ _ _ rfl
  have kb := ((Below.refl w.heap.size w).alloc (Nat.le_refl _) (.map #[] 0)).alloc (by simp) (.cells #[.string s, .map (some w.heap.size), .slice none 0 0] 99)
  have hpl : PlW ((w.alloc (.map #[] 0)).alloc (.cells #[.string s, .map (some w.heap.size), .slice none 0 0] 99)) w.heap.size (w.heap.size + 1) w.heap.size (.slice none 0 0) s 0 := ⟨k3, k2, OwnR.nil _ _ _ _, by omega, Nat.le_refl _⟩
  have HPL := Lib.hid hpl
  have KB := Lib.hid kb
  clear k1 k2 k3 kb hpl
  go_enter Try.func26, Try.ntmps26
  go_wp2
  go_ret
  exact ⟨rfl, HPL.out, KB.out⟩
/-! ### what is added to -/
theorem PlW.ne {w : World} {B P M : Nat} {v : Value} {s : ByteArray} {n : Nat} (h : PlW w B P M v s n) : P ≠ M := by
  rintro rfl
  obtain ⟨es, clock, hb, _⟩ := h.map
  have := h.blk
  unfold Blk at this
  rw [hb] at this
  simp at this
theorem own_ne_map {w : World} {base : Nat} {e : TypeId} {k : Nat} {v : Value} {rows : List (List Value)} (h : OwnR w base e k v rows) {H : Type} {P : Program} {kt : TypeId} {R : Value → Option (DataW H × List MemPlace)} {M n : Nat} {D : DataW H} (hm : w.ownsMap P kt R M n D) : ∀ i, v.ownBlock = some i → i ≠ M := by
  rintro i hi rfl
  obtain ⟨es, clock, hb, _⟩ := hm
  rcases h.2.2 with ⟨hv, _⟩ | ⟨g, cap, cur, hv, hg, hh, r⟩
  · rw [hv] at hi; cases hi
  · rw [hv] at hi
    cases hi
    change w.heap[g]? = _ at hb
    rw [hb] at hh
    simp at hh
theorem PlW.below {w w' : World} {B P M : Nat} {v : Value} {s : ByteArray} {n : Nat} (h : PlW w B P M v s n) (hb : Below w.heap.size w w') : PlW w' B P M v s n :=
  ⟨h.blk.below hb h.blk.lt, h.map.kept (grown_below hb) (by simp), h.own.keep hb, h.hP, h.hM⟩
/-- what adding has turned -/
structure AddT (w w' : World) (B P M : Nat) (v v' : Value) : Prop where
  below : Below B w w'
  block : ∀ k, k < w.heap.size → k ≠ P → k ≠ M → some k ≠ v.ownBlock → w'.heap[k]? = w.heap[k]?
  own : v'.ownBlock = v.ownBlock ∨ ∃ g, v'.ownBlock = some g ∧ w.heap.size ≤ g
theorem AddT.refl (w : World) (B P M : Nat) (v : Value) : AddT w w B P M v v := ⟨Below.refl _ _, fun _ _ _ _ _ => rfl, .inl rfl⟩
theorem AddT.trans {a b c : World} {B P M : Nat} {v v1 v2 : Value} (h : AddT a b B P M v v1) (h2 : AddT b c B P M v1 v2) : AddT a c B P M v v2 := by
  have hz := h.below.size
  refine ⟨h.below.trans h2.below, fun k q1 q2 q3 q4 => ?_, ?_⟩
  · rw [h2.block k (by omega) q2 q3 ?_]
    · exact h.block k q1 q2 q3 q4
    · rcases h.own with e | ⟨g, e, hg⟩
      · rw [e]; exact q4
      · rw [e]
        intro e2
        have := Option.some.inj e2
        omega
  · rcases h2.own with e | ⟨g, e, hg⟩
    · rw [e]; exact h.own
    · exact .inr ⟨g, e, by omega⟩
/-- what holds of the world while an append's region goes on -/
def adC (w1 : World) (B P M : Nat) (v1 : Value) (s : ByteArray) (k : Nat) (b : Bool) (W : World) : Prop :=
  Blk W P 99 (plc s M v1) ∧ W.ownsMap Try.prog 9 (plainElem (H := Unit) Try.prog 3) M k (mapW (sl s) k) ∧ w1.grownBy W v1.ownBlock ∧ (b = false → OwnR W B 3 1 v1 (rowsZ (aheadW (sl s) k)))
/-- what an operation may turn -/
def adK (v1 : Value) (b : Bool) (W W' : World) : Prop := W.grownBy W' (match b with | true => none | false => v1.ownBlock)
/-- what the operations come to -/
def adS (w1 : World) (B P : Nat) (v1 : Value) (k : Nat) (x : Int) (rows : List (List Value)) (i : Nat) (v : Value) (W : World) : Prop :=
  match i with
  | 0 | 1 | 2 | 5 | 10 => v = .pointer (some ⟨P, 0, none⟩)
  | 3 | 11 => v = .pointer (some ⟨P, 2, none⟩)
  | 4 => v = v1
  | 6 => v = .int .i64 (k : Int)
  | 7 => v = .int .i64 x
  | 8 => ∃ y, w1.heap.size ≤ y ∧ v = .slice (some ⟨y, 0, none⟩) 1 1 ∧ Blk W y 3 [.int .i64 x]
  | 9 => OwnR W B 3 1 v (rows ++ [[.int .i64 x]]) ∧ (v.ownBlock = v1.ownBlock ∨ ∃ g, v.ownBlock = some g ∧ w1.heap.size ≤ g)
  | _ => True
theorem adS_mono {w1 : World} {B P : Nat} {v1 : Value} {k : Nat} {x : Int} {rows : List (List Value)} (hlo : ∀ b, v1.ownBlock = some b → B ≤ b ∧ b < w1.heap.size) (b : Bool) (i : Nat) (v : Value) (W W' : World) (hb : i = 9 → b = true) (h : adS w1 B P v1 k x rows i v W) (hk : adK v1 b W W') : adS w1 B P v1 k x rows i v W' := by
  match i with
  | 0 | 1 | 2 | 3 | 4 | 5 | 6 | 7 | 10 | 11 => exact h
  | 8 =>
    obtain ⟨y, h1, h2, h3⟩ := h
    refine ⟨y, h1, h2, h3.grownO hk fun i hi e => ?_⟩
    subst e
    cases b
    · have := hlo i hi
      omega
    · cases hi
  | 9 =>
    obtain rfl := hb rfl
    obtain ⟨h1, h2⟩ := h
    exact ⟨h1.grownO hk (fun _ _ e => by cases e), h2⟩
  | _ + 12 => trivial
theorem adC_new {w1 : World} {B P M : Nat} {v1 : Value} {s : ByteArray} {k : Nat} {b : Bool} {W W' : World} (h : adC w1 B P M v1 s k b W) (hb : Below W.heap.size W W') : adC w1 B P M v1 s k b W' :=
  ⟨h.1.below hb h.1.lt, h.2.1.kept (grown_below hb) (by simp), h.2.2.1.trans ((grown_below hb).but _), fun e => (h.2.2.2 e).keep hb⟩
theorem adK_new {v1 : Value} {b : Bool} {W W' : World} (hb : Below W.heap.size W W') : adK v1 b W W' := (grown_below hb).but _
theorem info_w (_ : Unit) : (Try.prog.info? 3).map (fun i => (i.zero, i.size, i.bytes)) = some (some (.int .i64 0), 1, 8) := by kernel_rfl
/-- a slice's block that an append has kept or made -/
theorem own_ge {w w' : World} {v v' : Value} (h : v'.ownBlock = v.ownBlock ∨ v'.ownBlock = some w'.heap.size) (hz : w.heap.size ≤ w'.heap.size) : v'.ownBlock = v.ownBlock ∨ ∃ g, v'.ownBlock = some g ∧ w.heap.size ≤ g := by
  rcases h with h | h
  · exact .inl h
  · exact .inr ⟨_, h, hz⟩
set_option maxRecDepth 100000 in
set_option maxHeartbeats 2000000 in
theorem p_addTo {w : World} {B P M : Nat} {v : Value} {s : ByteArray} {n : Nat} (h : PlW w B P M v s n) (q : Nat) (hn : n ≤ q) (hq : q ≤ 1000000) (hs : s.size ≤ 1000000) :
    Calls Try.prog 27 #[.pointer (some ⟨P, 0, none⟩), .int .i64 (q : Int)] w fun e w' => e = .returned (.tuple #[]) ∧ ∃ k v', PlW w' B P M v' s k ∧ k ≤ q ∧ (k = q ∨ s.size < k + 3) ∧ AddT w w' B P M v v' := by
  obtain ⟨i0, hi0, hz0, hz1, hz2⟩ := info_parts2 (info_w ())
  obtain ⟨pa, cap, hv⟩ := h.own.isSlice
  rw [rowsZ_len, aheadW_len] at hv
  have c2 := h.blk.cell 2
  simp only [plc, List.getElem?_cons_zero, List.getElem?_cons_succ] at c2
  rw [hv] at c2
  have H := Lib.hid h
  clear h hv
  go_enter Try.func27, Try.ntmps27
  go_wp2
  go_loopw [4] (fun i wr => ∃ (k : Nat) (v' : Value), i = .int .i64 (k : Int) ∧ k ≤ q ∧ PlW wr B P M v' s k ∧ AddT w wr B P M v v') (fun i _ => q - (intOf i).toNat)
  case atStart => exact ⟨n, v, rfl, hn, H.out, AddT.refl _ _ _ _ _⟩
  case round =>
    obtain ⟨k, v1, rfl, hk, gP, gA⟩ := hrel
    clear H c2 hn
    by_cases hkq : k < q
    · have d1 : (k : Int) < (q : Int) := by omega
      by_cases hmay : k + 3 ≤ s.size
      · have hM := p_mayMatch P s (.map (some M)) v1 k true wr gP.blk (by omega) (by omega) (.inl ⟨rfl, hmay⟩)
        have HM := Lib.hid hM
        have GP := Lib.hid gP
        have GA := Lib.hid gA
        clear hM gP gA
        go_wp2_with fail
        (with_reducible refine HM.out.mono ?_)
        rintro e w1 ⟨rfl, rfl⟩
        clear HM
        obtain ⟨x, hx⟩ : ∃ x, lastW (sl s) k k = x := ⟨_, rfl⟩
        have hL := fun W (h1 : Blk W P 99 (plc s M v1)) (h2 : W.ownsMap Try.prog 9 (plainElem (H := Unit) Try.prog 3) M k (mapW (sl s) k)) => p_lastOf h1 h2 k hmay (by omega)
        rw [hx] at hL
        have HL := Lib.hid hL
        have hlo := GP.out.own.lt
        have HLO := Lib.hid hlo
        have hne := GP.out.own.ne GP.out.blk (by decide)
        have HNE := Lib.hid hne
        have hnm := own_ne_map GP.out.own GP.out.map
        have HNM := Lib.hid hnm
        have hPl := GP.out.blk.lt
        have HX := Lib.hid hx
        clear hL hlo hne hnm hx
        go_wp2_with fail
        refine region_mix 9 12 (by decide) mixed (by kernel_rfl) (by kernel_rfl) (fun u => #[_, _, _, _, _, _, _, _, _, _, _, _, _, _, _, _, _, _, _, _, u 0, u 1, u 2, u 3, u 4, u 5, u 6, u 7, u 8, u 9, u 10, u 11, _, _, _, _, _, _, _, _]) [] (fun i => match i with | 0 => _ | 1 => _ | 2 => _ | 3 => _ | 4 => _ | 5 => _ | 6 => _ | 7 => _ | 8 => _ | 9 => _ | 10 => _ | 11 => _ | _ => undef) rfl
          (adC w1 B P M v1 s k) ⟨GP.out.blk, GP.out.map, (grown_below (Below.refl w1.heap.size w1).drew).but _, fun _ => GP.out.own⟩ (adK v1) (adS w1 B P v1 k x (rowsZ (aheadW (sl s) k))) ?mono ?step ?one ?last
        case mono => exact adS_mono HLO.out
        case step =>
          intro b u W i o hi hik _ ho hC hd
          have hr : adK v1 b W W := by cases b <;> exact ⟨rfl, rfl, rfl, Nat.le_refl _, fun _ _ _ => rfl⟩
          rcases i with _ | _ | _ | _ | _ | _ | _ | _ | _ | _ | _ | _ | i
          all_goals try (simp only [List.getElem?_cons_zero, List.getElem?_cons_succ, Option.some.injEq] at ho; subst ho)
          · go_wp2_with fail
            exact ⟨_, rfl, rfl, hC, hr⟩
          · go_wp2_with fail
            exact ⟨_, rfl, rfl, hC, hr⟩
          · have h1 : u 1 = .pointer (some ⟨P, 0, none⟩) := hd ⟨1, .data⟩ (by simp) rfl
            rw [h1]
            go_wp2_with fail
            exact ⟨_, by simp [upd, h1], rfl, hC, hr⟩
          · have h1 : u 2 = .pointer (some ⟨P, 0, none⟩) := hd ⟨2, .data⟩ (by simp) rfl
            rw [h1]
            go_wp2_with fail
            exact ⟨_, by simp [upd, h1], rfl, hC, hr⟩
          · have h1 : u 3 = .pointer (some ⟨P, 2, none⟩) := hd ⟨3, .data⟩ (by simp) rfl
            have c2 := hC.1.cell 2
            simp only [plc, List.getElem?_cons_zero, List.getElem?_cons_succ] at c2
            rw [h1]
            go_wp2_with fail
            exact ⟨_, by simp [upd, h1], rfl, hC, hr⟩
          · go_wp2_with fail
            exact ⟨_, rfl, rfl, hC, hr⟩
          · go_wp2_with fail
            exact ⟨_, rfl, rfl, hC, hr⟩
          · have h1 : u 5 = .pointer (some ⟨P, 0, none⟩) := hd ⟨5, .data⟩ (by simp) rfl
            have h2 : u 6 = .int .i64 (k : Int) := hd ⟨6, .data⟩ (by simp) rfl
            have hL := HL.out W hC.1 hC.2.1
            have HC := Lib.hid hC
            rw [h1, h2]
            go_wp2_with fail
            (with_reducible refine hL.mono ?_)
            rintro e w3 ⟨rfl, hd3⟩
            go_wp2_with fail
            exact ⟨_, by simp [upd, h1, h2], rfl, adC_new HC.out (DrW.below hd3), adK_new (DrW.below hd3)⟩
          · have h1 : u 7 = .int .i64 x := hd ⟨7, .data⟩ (by simp) rfl
            have hz := hC.2.2.1.size
            have hb := (Below.refl W.heap.size W).alloc (Nat.le_refl _) (.cells #[.int .i64 x] 3)
            have HC := Lib.hid (adC_new hC hb)
            have HK : Hid (adK v1 b W (W.alloc (.cells #[.int .i64 x] 3))) := Lib.hid (adK_new hb)
            clear hC hb
            rw [h1]
            go_wp2_with fail
            exact ⟨_, by simp [upd, h1], ⟨W.heap.size, hz, rfl, Blk.new' W _ _ rfl⟩, HC.out, HK.out⟩
          · omega
          · have h1 : u 0 = .pointer (some ⟨P, 0, none⟩) := hd ⟨0, .data⟩ (by simp) rfl
            rw [h1]
            go_wp2_with fail
            exact ⟨_, by simp [upd, h1], rfl, hC, hr⟩
          · have h1 : u 10 = .pointer (some ⟨P, 0, none⟩) := hd ⟨10, .data⟩ (by simp) rfl
            rw [h1]
            go_wp2_with fail
            exact ⟨_, by simp [upd, h1], rfl, hC, hr⟩
          · omega
        case one =>
          intro u W o ho hC hd
          simp only [List.getElem?_cons_zero, List.getElem?_cons_succ, Option.some.injEq] at ho
          subst ho
          have h4 : u 4 = v1 := hd ⟨4, .data⟩ (by simp) rfl
          obtain ⟨y, hy, h8, hY⟩ : ∃ y, w1.heap.size ≤ y ∧ u 8 = .slice (some ⟨y, 0, none⟩) 1 1 ∧ Blk W y 3 [.int .i64 x] := hd ⟨8, .data⟩ (by simp) rfl
          have hO := hC.2.2.2 rfl
          have hnw := sl_one hY
          have hone : ∀ r ∈ [[Value.int .i64 x]], ∀ z ∈ r, z.oneCell' = true := by simp [Value.oneCell']
          have hlen : (rowsZ (aheadW (sl s) k)).length + [[Value.int .i64 x]].length ≤ maxLen := by rw [rowsZ_len, aheadW_len, List.length_singleton]; unfold maxLen; omega
          have hby : ((rowsZ (aheadW (sl s) k)).length + [[Value.int .i64 x]].length) * 8 ≤ 140737488355328 := by rw [rowsZ_len, aheadW_len, List.length_singleton]; omega
          have hbase : B ≤ W.heap.size := by have := GP.out.hP; have := hC.1.lt; omega
          have hfin : ∀ v' w5, OwnR w5 B 3 1 v' (rowsZ (aheadW (sl s) k) ++ [[.int .i64 x]]) → W.grownBy w5 v1.ownBlock → (v'.ownBlock = v1.ownBlock ∨ v'.ownBlock = some W.heap.size) → adS w1 B P v1 k x (rowsZ (aheadW (sl s) k)) 9 v' w5 ∧ adC w1 B P M v1 s k true w5 ∧ adK v1 false W w5 := fun v' w5 q1 q2 q3 =>
            ⟨⟨q1, own_ge q3 hC.2.2.1.size⟩, ⟨hC.1.grownO q2 (HNE.out), hC.2.1.kept q2 (fun e => HNM.out M e.symm rfl), hC.2.2.1.trans q2, fun e => by cases e⟩, q2⟩
          have HFIN := Lib.hid hfin
          have HO := Lib.hid hO
          have HNW := Lib.hid hnw
          have HONE := Lib.hid hone
          have HLEN := Lib.hid hlen
          have HBY := Lib.hid hby
          have HBA := Lib.hid hbase
          clear hO hnw hone hlen hby hbase hY hC hd hfin
          rw [h4, h8]
          go_wp2_with (first | (refine wpList_append_rows rfl _ _ 35 rfl B 3 i0 (.int .i64 0) 1 8 Try.underlying35 hi0 hz0 hz1 hz2 rfl (by decide) v1 (rowsZ (aheadW (sl s) k)) rfl HO.out (.slice (some ⟨y, 0, none⟩) 1 1) [[.int .i64 x]] rfl HNW.out HONE.out HLEN.out HBY.out HBA.out (.inr ⟨_, _, _, rfl⟩) ?_; intro v' w5 ho5 hg5 hv5))
          obtain ⟨q1, q2, q3⟩ := HFIN.out v' w5 ho5 hg5 hv5
          exact ⟨v', by simp [upd, h4, h8]; rfl, q1, q2, q3⟩
        case last =>
          intro u W o ho hC hS
          simp only [List.getElem?_cons_zero, List.getElem?_cons_succ, Option.some.injEq] at ho
          subst ho
          have h11 : u 11 = .pointer (some ⟨P, 2, none⟩) := hS 11 (by decide)
          obtain ⟨h9, hv9⟩ : OwnR W B 3 1 (u 9) (rowsZ (aheadW (sl s) k) ++ [[Value.int .i64 x]]) ∧ ((u 9).ownBlock = v1.ownBlock ∨ ∃ g, (u 9).ownBlock = some g ∧ w1.heap.size ≤ g) := hS 9 (by decide)
          clear hS
          rw [h11]
          obtain ⟨v5, hv5⟩ : ∃ v5, u 9 = v5 := ⟨_, rfl⟩
          rw [hv5] at h9 hv9 ⊢
          obtain ⟨A5, cap5, he5⟩ := h9.isSlice
          obtain ⟨n5, hn5⟩ : ∃ n, (rowsZ (aheadW (sl s) k) ++ [[Value.int .i64 x]]).length = n := ⟨_, rfl⟩
          rw [hn5] at he5
          have c2 := hC.1.cell 2
          have f2 := hC.1.free 2
          simp only [plc, List.getElem?_cons_zero, List.getElem?_cons_succ] at c2
          obtain ⟨w6, hw6⟩ : ∃ w6, W.setCell ⟨P, 2, none⟩ v5 = w6 := ⟨_, rfl⟩
          have g6 : W.grownBy w6 (some P) := by rw [← hw6]; exact grown_setCell W ⟨P, 2, none⟩ v5
          have hPM := GP.out.ne
          have K6 : Blk w6 P 99 (plc s M v5) := by rw [← hw6]; exact hC.1.set 2 v5
          have M6 := hC.2.1.kept g6 (fun e => hPM (Option.some.inj e).symm)
          have O6 : OwnR w6 B 3 1 v5 (rowsZ (aheadW (sl s) k) ++ [[Value.int .i64 x]]) := by rw [← hw6]; exact h9.cellOther hC.1 (by decide) 2 v5
          have T6 : AddT w1 w6 B P M v1 v5 := by
            refine ⟨?_, fun i hi q1 q2 q3 => ?_, hv9⟩
            · rw [← hw6]
              exact ((Below.refl B w1).grown hC.2.2.1 (by have := GP.out.hP; omega) (fun i e => (HLO.out i e).1)).setCell GP.out.hP _
            · rw [g6.block i (Nat.lt_of_lt_of_le hi hC.2.2.1.size) (fun e => q1 (Option.some.inj e))]
              exact hC.2.2.1.block i hi q3
          have hbp := GP.out.hP
          have hbm := GP.out.hM
          have hF := fun m => p_first P s (.map (some M)) v5 k (w6.drewN m) (K6.drewN m) hmay (by omega)
          have hkey : keyOf Try.prog 9 (.string (tx (keyW (sl s) k))) = some (kLit (keyW (sl s) k)) := by
            rw [Go.WideMaps.keyOf_string_mk Try.underlying9 (by rw [tx_size, keyW_len (by rw [sl_len]; exact hmay)]; decide), kLit_tx (keyW_bys (sl_bys s) k)]
          have HK6 := Lib.hid K6
          have HM6 := Lib.hid M6
          have HO6 := Lib.hid O6
          have HT6 := Lib.hid T6
          have HW6 := Lib.hid hw6
          have HF := Lib.hid hF
          have HKEY := Lib.hid hkey
          clear K6 M6 O6 T6 hw6 hF hkey g6 hC h9 hv9 hn5
          subst he5
          have c1 := HK6.out.cell 1
          simp only [plc, List.getElem?_cons_zero, List.getElem?_cons_succ] at c1
          go_wp2_with fail
          rw [HW6.out]
          refine region_drew_tail 8 mixed (by kernel_rfl) ?_
          simp only [List.take_succ_cons, List.take_zero, List.drop_succ_cons, List.drop_zero]
          repeat (first | go_big_quiet_step ((go_at_call 54; exact Calls.quiet_of_same (HF.out _))) | quiet_step ((go_at_call 54; exact Calls.quiet_of_same (HF.out _))))
          refine wpQuiet_nil ?_
          rintro w7 ⟨nq, rfl⟩
          have M7 : (w6.drewN nq).ownsMap Try.prog 9 (plainElem (H := Unit) Try.prog 3) M k (mapW (sl s) k) := HM6.out
          have HM7 := Lib.hid M7
          have hkm : k < maxLen := by unfold maxLen; omega
          clear M7
          go_wp2_with (first | (at_mapUpdate; refine wpList_mapUpdate_own _ rfl _ _ _ 97 rfl 9 3 law_str Try.underlying97 _ M k _ rfl HM7.out hkm _ _ _ rfl rfl HKEY.out _ [] (plainElem_int Try.underlying3 (WalkArith.wf_i64 (by omega))) ?_; intro w8 hown8 hg8))
          go_roundw
          case rel =>
            have hP8 : PlW w8 B P M (.slice A5 n5 cap5) s (k + 1) := by
              refine ⟨(HK6.out.drewN nq).grownO hg8 (fun i e => ?_), hown8, ?_, hbp, hbm⟩
              · rw [← Option.some.inj e]; exact fun e' => hPM e'.symm
              · rw [aheadW_snoc, rowsZ_app, HX.out]
                exact (HO6.out.keep (w' := w6.drewN nq) (below_drewN (Below.refl _ _) nq)).grownO hg8 (fun i e => by
                  intro e'
                  exact own_ne_map HO6.out HM6.out i e (Option.some.inj e'))
            have hT8 : AddT w1 w8 B P M v1 (.slice A5 n5 cap5) := by
              refine HT6.out.trans ⟨(below_drewN (Below.refl B w6) nq).grown hg8 ?_ (fun i e => by rw [← Option.some.inj e]; exact hbm), fun i hi q1 q2 q3 => ?_, .inl rfl⟩
              · have := HK6.out.lt
                show B ≤ w6.heap.size
                omega
              · exact (hg8.block i hi (fun e => q2 (Option.some.inj e))).trans rfl
            exact ⟨k + 1, .slice A5 n5 cap5, by go_num, by omega, hP8, GA.out.trans hT8⟩
          case measure => (simp [intOf]; try omega)
      · have hM := p_mayMatch P s (.map (some M)) v1 k false wr gP.blk (by omega) (by omega) (.inr ⟨rfl, by omega⟩)
        have HM := Lib.hid hM
        have GP := Lib.hid gP
        have GA := Lib.hid gA
        clear hM gP gA
        go_wp2_with fail
        (with_reducible refine HM.out.mono ?_)
        rintro e w1 ⟨rfl, rfl⟩
        clear HM
        go_wp2
        go_end0
        exact ⟨rfl, k, v1, GP.out, hk, .inr (by omega), GA.out⟩
    · obtain rfl : k = q := by omega
      have GP := Lib.hid gP
      have GA := Lib.hid gA
      clear gP gA
      go_wp2
      go_end0
      exact ⟨rfl, k, v1, GP.out, hk, .inl rfl, GA.out⟩
end Go.Proofs.Ytpjihjbgihionaa
namespace Go.Proofs.Ytpjihjbgihionaa
open Go.RowKit
set_option linter.unusedVariables false

/-- the token at a place -/
def tokW (s : List Nat) (p : Nat) : Nat × Int × Int := if (matchW s p).1 = 0 then (s.getD p 0, 0, 0) else (0, ((matchW s p).1 : Int), ((matchW s p).2 : Int))
def rowT (t : Nat × Int × Int) : List Value := [.int .u8 (t.1 : Int), .int .i64 t.2.1, .int .i64 t.2.2]
def rowsTk (l : List (Nat × Int × Int)) : List (List Value) := l.map rowT
theorem rowsTk_len (l : List (Nat × Int × Int)) : (rowsTk l).length = l.length := by simp [rowsTk]
theorem rowsTk_snoc (l : List (Nat × Int × Int)) (t : Nat × Int × Int) : rowsTk (l ++ [t]) = rowsTk l ++ [rowT t] := by simp [rowsTk]
theorem split_step {s : List Nat} {p : Nat} (hp : p < s.length) : splitW s s.length p = tokW s p :: splitW s s.length (p + max (matchW s p).1 1) := by
  obtain ⟨f, hf⟩ : ∃ f, s.length = f + 1 := ⟨s.length - 1, by omega⟩
  rw [splitW_fuel s s.length (f + 1) p (by omega) (by omega), splitW, if_neg (by omega)]
  unfold tokW
  by_cases h : (matchW s p).1 = 0
  · rw [if_pos h, if_pos h, h, splitW_fuel s f s.length (p + 1) (by omega) (by omega)]
    rfl
  · rw [if_neg h, if_neg h, splitW_fuel s f s.length _ (by omega) (by omega), show max (matchW s p).1 1 = (matchW s p).1 by omega]
theorem split_end {s : List Nat} {p : Nat} (hp : s.length ≤ p) : splitW s s.length p = [] := by
  rw [splitW_fuel s s.length 1 p (by omega) (by omega), splitW, if_pos hp]
theorem match_in {s : List Nat} {p : Nat} (hp : p < s.length) : p + max (matchW s p).1 1 ≤ s.length ∧ (matchW s p).1 ≤ 34 := by
  by_cases h : (matchW s p).1 = 0
  · rw [h]; exact ⟨by omega, by omega⟩
  · have := matchW_is h
    omega
theorem build_tk1 (c : Int) (w : World) : (Instr.build 34 #[(0, .int .u8 c)]).run Try.prog w = .ok (.agg #[.int .u8 c, .int .i64 0, .int .i64 0]) w := by kernel_rfl
theorem build_tk2 (n b : Int) (w : World) : (Instr.build 34 #[(1, .int .i64 n), (2, .int .i64 b)]).run Try.prog w = .ok (.agg #[.int .u8 0, .int .i64 n, .int .i64 b]) w := by kernel_rfl
theorem rowT_arr (c : Nat) (n b : Int) : (rowT (c, n, b)).toArray = #[.int .u8 (c : Int), .int .i64 n, .int .i64 b] := rfl
theorem rowT_one (t : Nat × Int × Int) : (rowT t).toArray.all (·.oneCell') = true := by simp [rowT, Value.oneCell']
theorem size_tk : (Try.prog.info? 34).map (·.size) = some 3 := by kernel_rfl
set_option maxRecDepth 100000 in
set_option maxHeartbeats 1000000 in
theorem p_token {w : World} {B P M : Nat} {v : Value} {s : ByteArray} {n : Nat} (h : PlW w B P M v s n) (p : Nat) (hp : p < s.size) (hn : p + 3 ≤ s.size → n = p) (hs : s.size ≤ 1000000) :
    Calls Try.prog 28 #[.pointer (some ⟨P, 0, none⟩), .int .i64 (p : Int)] w fun e w' => e = .returned (.agg (rowT (tokW (sl s) p)).toArray) ∧ Below w.heap.size w w' := by
  have k0 := Blk.new' w 34 (c := #[.int .u8 0, .int .i64 0, .int .i64 0]) [.int .u8 0, .int .i64 0, .int .i64 0] rfl
  have hb := (Below.refl w.heap.size w).alloc (Nat.le_refl _) (.cells #[.int .u8 0, .int .i64 0, .int .i64 0] 34)
  have hP := h.below hb
  have hM := p_match hP p hp hn (by omega)
  have K0 := Lib.hid k0
  have HB := Lib.hid hb
  have HP := Lib.hid hP
  have HM := Lib.hid hM
  have b1 := build_tk1
  have b2 := build_tk2
  clear k0 hb hP hM hn
  go_enter Try.func28, Try.ntmps28
  go_wp2_with fail
  (with_reducible refine HM.out.mono ?_)
  rintro e w2 ⟨rfl, hd⟩
  have K2 := K0.out.below hd.below K0.out.lt
  have P2 := HP.out.drw hd
  have B2 := HB.out.trans (hd.below.mono (by simp))
  clear HM K0 HP HB hd
  by_cases hm : (matchW (sl s) p).1 = 0
  · have ht : tokW (sl s) p = ((sl s).getD p 0, 0, 0) := by unfold tokW; rw [if_pos hm]
    have c0 := P2.blk.cell 0
    simp only [plc, List.getElem?_cons_zero] at c0
    have hI := fun w => index_sl s .i64 p hp w
    have HT := Lib.hid ht
    have i1 : (p : Int) < (s.size : Int) := by omega
    rw [hm]
    clear ht hm
    generalize (sl s).getD p 0 = c at *
    go_wp2_with (refine wpList_store_blk rfl 34 _ _ rfl w.heap.size (rowT (c, 0, 0)) rfl rfl K2 size_tk rfl (rowT_one _) ?_)
    refine bodyPost_ret (v := .agg (rowT (c, 0, 0)).toArray) (results_cell_blk rfl _ _ _ rfl (K2.row (rowT (c, 0, 0)) rfl) Try.underlying34 rfl size_tk) rfl ⟨by rw [HT.out], below_setRow B2 (Nat.le_refl _) _⟩
  · have ht : tokW (sl s) p = (0, ((matchW (sl s) p).1 : Int), ((matchW (sl s) p).2 : Int)) := by unfold tokW; rw [if_neg hm]
    have HT := Lib.hid ht
    have g1 : (0 : Int) < ((matchW (sl s) p).1 : Int) := by omega
    clear ht
    generalize (matchW (sl s) p).1 = m1 at *
    generalize (matchW (sl s) p).2 = m2 at *
    go_wp2_with (refine wpList_store_blk rfl 34 _ _ rfl w.heap.size (rowT (0, (m1 : Int), (m2 : Int))) rfl rfl K2 size_tk rfl (rowT_one _) ?_)
    refine bodyPost_ret (v := .agg (rowT (0, (m1 : Int), (m2 : Int))).toArray) (results_cell_blk rfl _ _ _ rfl (K2.row (rowT (0, (m1 : Int), (m2 : Int))) rfl) Try.underlying34 rfl size_tk) rfl ⟨by rw [HT.out], below_setRow B2 (Nat.le_refl _) _⟩
/-- of any place -/
def matchZ (s : List Nat) (x : Int) : Nat × Nat := if x < 0 then (0, 0) else matchW s x.toNat
theorem AddT.keeps {w w' : World} {B P M : Nat} {v v' : Value} (h : AddT w w' B P M v v') {base : Nat} {e : TypeId} {k : Nat} {x : Value} {rows : List (List Value)} (ho : OwnR w base e k x rows) (hne : ∀ i, x.ownBlock = some i → i ≠ P ∧ i ≠ M ∧ some i ≠ v.ownBlock) : OwnR w' base e k x rows := by
  obtain ⟨k0, k1, k2⟩ := ho
  refine ⟨k0, k1, ?_⟩
  rcases k2 with h2 | ⟨g, cap, cur, hv, hgg, hh, rest⟩
  · exact .inl h2
  · refine .inr ⟨g, cap, cur, hv, hgg, ?_, rest⟩
    have hlt : g < w.heap.size := by
      rcases Nat.lt_or_ge g w.heap.size with hb | hb
      · exact hb
      · rw [Array.getElem?_eq_none hb] at hh; cases hh
    obtain ⟨q1, q2, q3⟩ := hne g (by rw [hv]; rfl)
    rw [h.block g hlt q1 q2 q3]
    exact hh
theorem info_tk : (Try.prog.info? 34).map (fun i => (i.zero, i.size, i.bytes)) = some (some (.agg #[.int .u8 0, .int .i64 0, .int .i64 0]), 3, 24) := by kernel_rfl
set_option maxRecDepth 100000 in
set_option maxHeartbeats 2000000 in
theorem p_Split (s : ByteArray) (w : World) (hs : s.size ≤ 100000) :
    Calls Try.prog 15 #[.string s] w (OwnRetR 34 3 (rowsTk (splitW (sl s) s.size 0)) w) := by
  obtain ⟨i0, hi0, hz0, hz1, hz2⟩ := info_parts2 info_tk
  have hN := p_newPlaces s w
  have HN := Lib.hid hN
  have i1 : (s.size : Int) ≤ 100000 := by omega
  clear hN
  go_enter Try.func15, Try.ntmps15
  go_wp2_with fail
  (with_reducible refine HN.out.mono ?_)
  rintro e w1 ⟨rfl, hP, hb⟩
  have HP := Lib.hid hP
  have HB := Lib.hid hb
  clear hP hb HN
  go_wp2
  go_loopw [3, 5] (fun l i wr => ∃ (p n : Nat) (v lv : Value) (T : List (Nat × Int × Int)), lv = l ∧ i = .int .i64 (p : Int) ∧ p ≤ s.size ∧ n ≤ p ∧ PlW wr w.heap.size (w.heap.size + 1) w.heap.size v s n ∧ OwnR wr w.heap.size 34 3 lv (rowsTk T) ∧ T ++ splitW (sl s) s.size p = splitW (sl s) s.size 0 ∧ T.length ≤ p ∧ Below w.heap.size w wr) (fun _ i _ => s.size - (intOf i).toNat)
  case atStart => exact ⟨0, 0, _, _, [], rfl, rfl, by omega, by omega, HP.out, OwnR.nil _ _ _ _, rfl, by simp, HB.out⟩
  case round =>
    obtain ⟨p, n, v, lv, T, rfl, rfl, hp, hn, gP, gO, gT, gl, gb⟩ := hrel
    clear HP HB
    by_cases hlt : p < s.size
    · have d1 : (p : Int) < (s.size : Int) := by omega
      have hA := p_addTo gP p hn (by omega) (by omega)
      have hne : ∀ i, lv.ownBlock = some i → i ≠ w.heap.size + 1 ∧ i ≠ w.heap.size ∧ some i ≠ v.ownBlock := fun i hi => ⟨gO.ne gP.blk (by decide) i hi, own_ne_map gO gP.map i hi, gO.apart gP.own (by decide) i hi⟩
      have HA := Lib.hid hA
      have HNE := Lib.hid hne
      have GO := Lib.hid gO
      have GT := Lib.hid gT
      have GB := Lib.hid gb
      clear hA hne gP gO gT gb
      go_wp2_with fail
      (with_reducible refine HA.out.mono ?_)
      rintro e w2 ⟨rfl, n2, v2, hP2, hn2, hn3, hA2⟩
      have O2 := hA2.keeps GO.out HNE.out
      have B2 := GB.out.trans hA2.below
      have hTk := p_token hP2 p hlt (by omega) (by omega)
      have HTK := Lib.hid hTk
      have HP2 := Lib.hid hP2
      have HO2 := Lib.hid O2
      have HB2 := Lib.hid B2
      clear HA HNE GO GB hP2 hA2 O2 B2 hTk
      go_wp2_with fail
      (with_reducible refine HTK.out.mono ?_)
      rintro e w3 ⟨rfl, hb3⟩
      have hP3 := HP2.out.below hb3
      have hO3 := HO2.out.keep hb3
      have hB3 := HB2.out.trans (hb3.mono HB2.out.size)
      have hst := split_step (s := sl s) (p := p) (by rw [sl_len]; exact hlt)
      rw [sl_len] at hst
      have hin := match_in (s := sl s) (p := p) (by rw [sl_len]; exact hlt)
      rw [sl_len] at hin
      have hq3 : (matchW (sl s) p).1 = 0 ∨ 3 ≤ (matchW (sl s) p).1 := by
        by_cases h : (matchW (sl s) p).1 = 0
        · exact .inl h
        · exact .inr (matchW_is h).1
      have htok : (tokW (sl s) p).2.1 = ((matchW (sl s) p).1 : Int) := by
        unfold tokW
        split
        · rename_i h; rw [h]; rfl
        · rfl
      obtain ⟨c, m, b, hc⟩ : ∃ c m b, tokW (sl s) p = (c, m, b) := ⟨_, _, _, rfl⟩
      obtain ⟨q, hq⟩ : ∃ q, (matchW (sl s) p).1 = q := ⟨_, rfl⟩
      rw [hc, hq] at hst
      rw [hc, hq] at htok
      rw [hq] at hin hq3
      obtain rfl : m = (q : Int) := htok
      rw [hc]
      have K4 := Blk.new' w3 34 (c := #[.int .u8 0, .int .i64 0, .int .i64 0]) [.int .u8 0, .int .i64 0, .int .i64 0] rfl
      have K5 := K4.row (rowT (c, (q : Int), b)) rfl
      obtain ⟨w5, hw5⟩ : ∃ w5, (w3.alloc (.cells #[.int .u8 0, .int .i64 0, .int .i64 0] 34)).setRow w3.heap.size (rowT (c, (q : Int), b)).toArray = w5 := ⟨_, rfl⟩
      have hb5 : Below w3.heap.size w3 w5 := by rw [← hw5]; exact below_setRow ((Below.refl _ _).alloc (Nat.le_refl _) _) (Nat.le_refl _) _
      rw [hw5] at K5
      have hP5 := hP3.below hb5
      have hO5 := hO3.keep hb5
      have hB5 := hB3.trans (hb5.mono hB3.size)
      have k6 := Blk.new' w5 34 (c := #[.int .u8 (c : Int), .int .i64 (q : Int), .int .i64 b]) (rowT (c, (q : Int), b)) rfl
      have hb6 := (Below.refl w5.heap.size w5).alloc (Nat.le_refl _) (.cells #[.int .u8 (c : Int), .int .i64 (q : Int), .int .i64 b] 34)
      have hnews := sl_one k6
      have hown := hO5.keep hb6
      have hP6 := hP5.below hb6
      have hB6 := hB5.trans (hb6.mono hB5.size)
      have K6 := K5.below hb6 K5.lt
      have hlo := hown.lt
      have hl3 : ∀ i, lv.ownBlock = some i → i < w3.heap.size := fun i e => (hO3.lt i e).2
      have HL3 := Lib.hid hl3
      have hone : ∀ r ∈ [rowT (c, (q : Int), b)], ∀ u ∈ r, u.oneCell' = true := by simp [rowT, Value.oneCell']
      have hlen : (rowsTk T).length + [rowT (c, (q : Int), b)].length ≤ maxLen := by rw [rowsTk_len, List.length_singleton]; unfold maxLen; omega
      have hby : ((rowsTk T).length + [rowT (c, (q : Int), b)].length) * 24 ≤ 140737488355328 := by rw [rowsTk_len, List.length_singleton]; omega
      have KK4 := Lib.hid K4
      have KK5 := Lib.hid K5
      have KK6 := Lib.hid K6
      have HW5 := Lib.hid hw5
      have HP6 := Lib.hid hP6
      have HB6 := Lib.hid hB6
      have HOW := Lib.hid hown
      have HNW := Lib.hid hnews
      have HLO := Lib.hid hlo
      have HONE := Lib.hid hone
      have HLEN := Lib.hid hlen
      have HBY := Lib.hid hby
      have HBA := Lib.hid hB6.size
      have HST := Lib.hid hst
      clear hP3 hO3 hB3 hst hc hq K4 K5 hw5 hb5 hP5 hO5 hB5 k6 hb6 hnews hown hP6 hB6 K6 hlo hl3 hone hlen hby HP2 HO2 HB2 HTK hb3
      have hadd : ∀ w7, (w5.alloc (.cells #[.int .u8 (c : Int), .int .i64 (q : Int), .int .i64 b] 34)).grownBy w7 lv.ownBlock → PlW w7 w.heap.size (w.heap.size + 1) w.heap.size v2 s n2 := fun w7 hg => by
        have h6 := HP6.out
        have ho := HOW.out
        exact ⟨h6.blk.grownO hg (ho.ne h6.blk (by decide)), h6.map.kept hg (fun e => own_ne_map ho h6.map _ e.symm rfl), h6.own.grownO hg (fun i hi e => ho.apart h6.own (by decide) i e.symm hi.symm), h6.hP, h6.hM⟩
      have HADD := Lib.hid hadd
      clear hadd
      rcases hq3 with hq3 | hq3
      · have g5 : (q : Int) < 1 := by omega
        have hmx : max q 1 = 1 := by omega
        have HMX := Lib.hid hmx
        rw [hmx] at hin
        clear hmx hq3
        go_wp2_with (first | (refine wpList_store_blk rfl 34 _ _ rfl w3.heap.size (rowT (c, (q : Int), b)) rfl rfl KK4.out size_tk rfl (rowT_one _) ?_) | (rw [HW5.out]; refine wpList_load_blk rfl 34 _ rfl w3.heap.size rfl KK5.out Try.underlying34 rfl size_tk ?_; rw [show (rowT (c, (q : Int), b)).toArray = #[.int .u8 (c : Int), .int .i64 (q : Int), .int .i64 b] from rfl]) | (refine wpList_append_rows rfl _ _ 30 rfl w.heap.size 34 i0 (.agg #[.int .u8 0, .int .i64 0, .int .i64 0]) 3 24 Try.underlying30 hi0 hz0 hz1 hz2 rfl (by decide) _ (rowsTk T) rfl HOW.out (.slice (some ⟨w5.heap.size, 0, none⟩) 1 1) [rowT (c, (q : Int), b)] rfl HNW.out HONE.out HLEN.out HBY.out HBA.out (.inr ⟨_, _, _, rfl⟩) ?_; intro v7 w7 ho7 hg7 hv7; have c7 := (KK6.out.grownO hg7 (fun i e => Nat.ne_of_lt (HL3.out i e))).cell 1; simp only [rowT, List.getElem?_cons_zero, List.getElem?_cons_succ] at c7))
        go_roundw
        case rel => exact ⟨p + 1, n2, v2, v7, T ++ [(c, (q : Int), b)], rfl, by go_num, by omega, by omega, HADD.out w7 hg7, by rw [rowsTk_snoc]; exact ho7, by rw [List.append_assoc, ← GT.out, HST.out]; rw [HMX.out]; rfl, by rw [List.length_append, List.length_singleton]; omega, HB6.out.grown hg7 HBA.out (fun k e => (HLO.out k e).1)⟩
        case measure => (simp [intOf]; try omega)
      · have g5 : (1 : Int) < (q : Int) := by omega
        have hmx : max q 1 = q := by omega
        have HMX := Lib.hid hmx
        rw [hmx] at hin
        clear hmx hq3
        go_wp2_with (first | (refine wpList_store_blk rfl 34 _ _ rfl w3.heap.size (rowT (c, (q : Int), b)) rfl rfl KK4.out size_tk rfl (rowT_one _) ?_) | (rw [HW5.out]; refine wpList_load_blk rfl 34 _ rfl w3.heap.size rfl KK5.out Try.underlying34 rfl size_tk ?_; rw [show (rowT (c, (q : Int), b)).toArray = #[.int .u8 (c : Int), .int .i64 (q : Int), .int .i64 b] from rfl]) | (refine wpList_append_rows rfl _ _ 30 rfl w.heap.size 34 i0 (.agg #[.int .u8 0, .int .i64 0, .int .i64 0]) 3 24 Try.underlying30 hi0 hz0 hz1 hz2 rfl (by decide) _ (rowsTk T) rfl HOW.out (.slice (some ⟨w5.heap.size, 0, none⟩) 1 1) [rowT (c, (q : Int), b)] rfl HNW.out HONE.out HLEN.out HBY.out HBA.out (.inr ⟨_, _, _, rfl⟩) ?_; intro v7 w7 ho7 hg7 hv7; have c7 := (KK6.out.grownO hg7 (fun i e => Nat.ne_of_lt (HL3.out i e))).cell 1; simp only [rowT, List.getElem?_cons_zero, List.getElem?_cons_succ] at c7))
        go_roundw
        case rel => exact ⟨p + q, n2, v2, v7, T ++ [(c, (q : Int), b)], rfl, by go_num, by omega, by omega, HADD.out w7 hg7, by rw [rowsTk_snoc]; exact ho7, by rw [List.append_assoc, ← GT.out, HST.out]; rw [HMX.out]; rfl, by rw [List.length_append, List.length_singleton]; omega, HB6.out.grown hg7 HBA.out (fun k e => (HLO.out k e).1)⟩
        case measure => (simp [intOf]; try omega)
    · obtain rfl : p = s.size := by omega
      have he := split_end (s := sl s) (p := s.size) (by rw [sl_len]; omega)
      rw [sl_len] at he
      rw [he, List.append_nil] at gT
      have GT := Lib.hid gT
      have GO := Lib.hid gO
      have GB := Lib.hid gb
      clear gP gT gO gb he
      go_wp2
      go_ret
      exact ⟨_, rfl, by rw [← GT.out]; exact GO.out, GB.out⟩
end Go.Proofs.Ytpjihjbgihionaa
