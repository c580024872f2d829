/- Walks of how far two places are the same, of the best match, and of the token at a place. -/
import Derived.Test.YtloncdnnblkpdaaWPl
import Derived.BigQuiet
namespace Go.Proofs.Ytloncdnnblkpdaa
open Go.RowKit
set_option linter.unusedVariables false

theorem same_three {L : List Nat} {f p : Nat} (hf : f + 3 ≤ L.length) (hp : p + 3 ≤ L.length) (h : keyW L f = keyW L p) : ∀ i, i < 3 → L.getD (f + i) 0 = L.getD (p + i) 0 := (keyW_iff hf hp).1 h
theorem index_at (s : ByteArray) (a n x : Nat) (hj : a + n < s.size) (hx : (sl s).getD (a + n) 0 = x) (w : World) :
    (Instr.index 9 (.string s) (.int .i64 ((a : Int) + (n : Int)))).run Try.prog w = .ok (.int .u8 (x : Int)) w := by
  have := index_sl s .i64 (a + n) hj w
  rw [hx] at this
  simpa using this
set_option maxRecDepth 100000 in
set_option maxHeartbeats 1000000 in
theorem p_run (P : Nat) (s : ByteArray) (m v : Value) (f p : Nat) (w : World) (hB : Blk w P 59 [.string s, m, v]) (hf : f < p) (hp : p + 3 ≤ s.size) (hk : keyW (sl s) f = keyW (sl s) p) (hs : s.size ≤ 1000000000) :
    Calls Try.prog 27 #[.pointer (some ⟨P, 0, none⟩), .int .i64 (f : Int), .int .i64 (p : Int)] w fun e w' => e = .returned (.int .i64 ((runW (sl s) 34 f p : Nat) : Int)) ∧ ∃ k, w' = w.drewN k := by
  have c0 := hB.cell 0
  simp only [List.getElem?_cons_zero] at c0
  have h3 := same_three (by rw [sl_len]; omega) (by rw [sl_len]; omega) hk
  have H3 := Lib.hid h3
  have i1 : (s.size : Int) ≤ 1000000000 := by omega
  have i2 : (p : Int) + 3 ≤ (s.size : Int) := by omega
  have i3 : (f : Int) < (p : Int) := by omega
  clear hB hk h3
  go_enter Try.func27, Try.ntmps27
  go_wp2
  go_loopw [7] (fun i wr => ∃ n : Nat, 3 ≤ n ∧ n ≤ 34 ∧ p + n ≤ s.size ∧ i = .int .i64 (n : Int) ∧ (∀ i, i < n → (sl s).getD (f + i) 0 = (sl s).getD (p + i) 0) ∧ ∃ k, wr = w.drewN k) (fun i _ => 34 - (intOf i).toNat)
  case atStart => exact ⟨3, by omega, by omega, hp, rfl, H3.out, 0, rfl⟩
  case round =>
    obtain ⟨n, hn3, hn34, hpn, rfl, hsm, k0, rfl⟩ := hrel
    have stop : ∀ h : (n = 34 ∨ s.size ≤ p + n ∨ (sl s).getD (f + n) 0 ≠ (sl s).getD (p + n) 0), runW (sl s) 34 f p = n := fun h => run_stop hn34 (by rw [sl_len]; exact hpn) hsm (by rw [sl_len]; exact h)
    have STOP := Lib.hid stop
    have HSM := Lib.hid hsm
    clear H3 hsm stop
    by_cases h1 : n = 34
    · subst h1
      have hst := Lib.hid (STOP.out (.inl rfl))
      have d1 : decide (((34 : Nat) : Int) < 34) = false := by decide
      have d1' : decide ((34 : Nat) < 34) = false := by decide
      clear STOP
      go_wp2_with fail
      go_quiet (fail)
      go_wp2
      go_ret
      exact ⟨by rw [hst.out]; rfl, by first | exact ⟨_, World.drewN_drewN ..⟩ | exact ⟨_, rfl⟩⟩
    · have d1 : decide ((n : Int) < 34) = true := by simp; omega
      have d1' : decide (n < 34) = true := by simp; omega
      by_cases h2 : s.size ≤ p + n
      · have hst := Lib.hid (STOP.out (.inr (.inl h2)))
        have d2 : decide ((p : Int) + (n : Int) < (s.size : Int)) = false := by simp; omega
        have d2' : decide (p + n < s.size) = false := by simp; omega
        clear STOP h1 h2
        go_wp2_with fail
        go_quiet (fail)
        go_wp2
        go_ret
        exact ⟨by rw [hst.out]; rfl, by first | exact ⟨_, World.drewN_drewN ..⟩ | exact ⟨_, rfl⟩⟩
      · have d2 : decide ((p : Int) + (n : Int) < (s.size : Int)) = true := by simp; omega
        have d2' : decide (p + n < s.size) = true := by simp; omega
        obtain ⟨x, hx⟩ : ∃ x, (sl s).getD (f + n) 0 = x := ⟨_, rfl⟩
        obtain ⟨y, hy⟩ : ∃ y, (sl s).getD (p + n) 0 = y := ⟨_, rfl⟩
        have hX := index_at s f n x (by omega) hx
        have hY := index_at s p n y (by omega) hy
        by_cases h3 : x = y
        · subst h3
          have d3 : decide ((x : Int) = (x : Int)) = true := by simp
          have d3' : ((x : Int) == (x : Int)) = true := by simp
          have hsm' : ∀ i, i < n + 1 → (sl s).getD (f + i) 0 = (sl s).getD (p + i) 0 := fun i hi => by
            rcases Nat.lt_or_ge i n with h | h
            · exact HSM.out i h
            · obtain rfl : i = n := by omega
              rw [hx, hy]
          have HS := Lib.hid hsm'
          clear STOP hsm' hx hy
          go_wp2_with fail
          go_quiet (fail)
          go_wp2
          go_roundw
          case rel => exact ⟨n + 1, by omega, by omega, by omega, by go_num, HS.out, by first | exact ⟨_, World.drewN_drewN ..⟩ | exact ⟨_, rfl⟩⟩
          case measure => (simp [intOf]; try omega)
        · have hst := Lib.hid (STOP.out (.inr (.inr (by rw [hx, hy]; exact h3))))
          have d3 : decide ((x : Int) = (y : Int)) = false := by simp; omega
          have d3' : ((x : Int) == (y : Int)) = false := by rw [beq_eq_false_iff_ne]; omega
          clear STOP h1 h2 h3 hx hy
          go_wp2_with fail
          go_quiet (fail)
          go_wp2
          go_ret
          exact ⟨by rw [hst.out]; rfl, by first | exact ⟨_, World.drewN_drewN ..⟩ | exact ⟨_, rfl⟩⟩
/-- the same world, behind some draws -/
def DrW (w w' : World) : Prop := ∃ k, w' = w.drewN k
theorem DrW.refl (w : World) : DrW w w := ⟨0, rfl⟩
theorem DrW.trans {a b c : World} (h : DrW a b) (h2 : DrW b c) : DrW a c := by
  obtain ⟨k, rfl⟩ := h
  obtain ⟨l, rfl⟩ := h2
  exact ⟨k + l, by rw [World.drewN_drewN]⟩
theorem DrW.below {w w' : World} (h : DrW w w') : Below w.heap.size w w' := by
  obtain ⟨k, rfl⟩ := h
  exact below_drewN (Below.refl _ _) k
theorem PlW.drw {w w' : World} {B P M : Nat} {v : Value} {s : ByteArray} {n : Nat} (h : PlW w B P M v s n) (hd : DrW w w') : PlW w' B P M v s n := by
  obtain ⟨k, rfl⟩ := hd
  exact h.drewN k
theorem seek_le {s : List Nat} {p : Nat} {f : Int} {m : Nat × Nat} (h : SeekW s p f m) : m.1 ≤ 34 ∧ m.2 ≤ p := by
  obtain ⟨q, h1, h2, rfl, _⟩ := h
  have : ∀ k, k ≤ p → (best3 s p k).1 ≤ 34 ∧ (best3 s p k).2 ≤ p := fun k => by
    induction k with
    | zero => intro _; exact ⟨by show 0 ≤ 34; omega, by show 0 ≤ p; omega⟩
    | succ k ih =>
      intro hk
      unfold best3
      split
      · exact ⟨runW_le _ _ _ _, hk⟩
      · exact ih (by omega)
  exact this _ (by omega)
set_option maxRecDepth 100000 in
set_option maxHeartbeats 1000000 in
theorem p_match {w : World} {B P M : Nat} {v : Value} {s : ByteArray} {n : Nat} (h : PlW w B P M v s n) (p : Nat) (hp : p < s.size) (hn : p + 3 ≤ s.size → n = p) (hs : s.size ≤ 1000000000) :
    Calls Try.prog 19 #[.pointer (some ⟨P, 0, none⟩), .int .i64 (p : Int)] w fun e w' => e = .returned (.tuple #[.int .i64 ((matchW (sl s) p).1 : Int), .int .i64 ((matchW (sl s) p).2 : Int)]) ∧ DrW w w' := by
  by_cases hmay : p + 3 ≤ s.size
  · obtain rfl : n = p := hn hmay
    have hM := p_mayMatch P s (.map (some M)) v n true w h.blk (by omega) hs (.inl ⟨rfl, hmay⟩)
    have hL := p_lastOf h.blk h.map n hmay hs
    have hS := SeekW.first (s := sl s) (p := n) (by rw [sl_len]; exact hmay)
    have HM := Lib.hid hM
    have HL := Lib.hid hL
    have HS := Lib.hid hS
    have H := Lib.hid h
    have hn9 : n ≤ 1000000000 := by omega
    clear hM hL hS h hn
    go_enter Try.func19, Try.ntmps19
    go_wp2_with fail
    (with_reducible refine HM.out.mono ?_)
    rintro e w1 ⟨rfl, rfl⟩
    go_wp2_with fail
    (with_reducible refine HL.out.mono ?_)
    rintro e w2 ⟨rfl, hd2⟩
    have H2 := Lib.hid (H.out.drw hd2)
    have HD2 : Hid (DrW w1 w2) := Lib.hid hd2
    clear hd2 HM HL
    go_wp2_with fail
    go_loopw [6, 7, 8] (fun l b f wr => ∃ (i : Int) (m : Nat × Nat), l = .int .i64 (m.1 : Int) ∧ b = .int .i64 (m.2 : Int) ∧ f = .int .i64 i ∧ SeekW (sl s) n i m ∧ PlW wr B P M v s n ∧ DrW w1 wr) (fun _ _ f _ => (intOf f + 1).toNat)
    case atStart => exact ⟨_, (0, 0), rfl, rfl, rfl, HS.out, H2.out, HD2.out⟩
    case round =>
      obtain ⟨i, m, rfl, rfl, rfl, gS, gP, gD⟩ := hrel
      clear HS H2 HD2 H
      have hm := seek_le gS
      rcases gS.cases with rfl | ⟨f, rfl, hfn⟩
      · have hdone := gS.done (by rw [sl_len]; omega) (.inl rfl)
        have HD := Lib.hid hdone
        clear gS hm hdone
        go_wp2
        go_ret2
        exact ⟨by rw [← HD.out]; rfl, gD⟩
      · have e1 : ((f : Int) != -1) = true := by rw [bne_iff_ne]; omega
        by_cases h512 : n - f ≤ 512
        · have d2 : decide ((n : Int) - (f : Int) ≤ 512) = true := by simp; omega
          have hk := gS.key
          have hR := p_run P s (.map (some M)) v f n wr gP.blk hfn hmay hk.2 hs
          have hnx := gS.next (by rw [sl_len]; exact hmay) hfn h512
          obtain ⟨r, hr⟩ : ∃ r, runW (sl s) 34 f n = r := ⟨_, rfl⟩
          have hr34 : r ≤ 34 := by rw [← hr]; exact runW_le _ _ _ _
          rw [hr] at hR hnx
          have HR := Lib.hid hR
          have HNX := Lib.hid hnx
          have GP := Lib.hid gP
          have GD := Lib.hid gD
          clear hR hnx gS hk gP gD hr
          go_wp2_with fail
          (with_reducible refine HR.out.mono ?_)
          rintro e w3 ⟨rfl, hd3⟩
          have hP3 := GP.out.drw hd3
          have hD3 : DrW w1 w3 := GD.out.trans hd3
          obtain ⟨pa, cap, hv⟩ := hP3.own.isSlice
          rw [rowsZ_len, aheadW_len] at hv
          subst hv
          have hsl := hP3.own.sl
          obtain ⟨a, rfl, hc⟩ := SlZ.cell hsl (j := f) (by rw [aheadW_len]; exact hfn)
          rw [aheadW_get _ hfn] at hc
          have c2 := hP3.blk.cell 2
          simp only [plc, List.getElem?_cons_zero, List.getElem?_cons_succ] at c2
          have hb := lastW_lt (sl s) f f
          generalize lastW (sl s) f f = g at *
          have HB := Lib.hid hb
          have HP3 := Lib.hid hP3
          have HD3 := Lib.hid hD3
          clear hP3 hD3 hsl GP GD HR hd3
          have i1 : (f : Int) < (n : Int) := by omega
          have i2 : (n : Int) ≤ 1000000000 := by omega
          by_cases hlt : m.1 < r
          · have hnx := HNX.out
            rw [if_pos hlt] at hnx
            have HNX2 := Lib.hid hnx
            have d3 : decide ((m.1 : Int) < (r : Int)) = true := by simp; omega
            have i3 : (m.1 : Int) < (r : Int) := by omega
            have e4 : ((n - f : Nat) : Int) = (n : Int) - (f : Int) := by omega
            have E4 := Lib.hid e4
            clear HNX hnx hlt hb e4
            go_wp2
            go_roundw
            case rel => exact ⟨g, (r, n - f), by first | rfl | go_num, by rw [E4.out], rfl, HNX2.out, HP3.out, HD3.out⟩
            case measure => (have := HB.out; simp [intOf]; try omega)
          · have hnx := HNX.out
            rw [if_neg hlt] at hnx
            have HNX2 := Lib.hid hnx
            have d3 : decide ((m.1 : Int) < (r : Int)) = false := by simp; omega
            have i3 : ¬ (m.1 : Int) < (r : Int) := by omega
            clear HNX hnx hlt hb
            go_wp2
            go_roundw
            case rel => exact ⟨g, m, rfl, rfl, rfl, HNX2.out, HP3.out, HD3.out⟩
            case measure => (have := HB.out; simp [intOf]; try omega)
        · have d2 : decide ((n : Int) - (f : Int) ≤ 512) = false := by simp; omega
          have hdone := gS.done (by rw [sl_len]; omega) (.inr (by omega))
          have HD := Lib.hid hdone
          clear gS hm hdone h512
          go_wp2
          go_ret2
          exact ⟨by rw [← HD.out]; rfl, gD⟩
  · have hM := p_mayMatch P s (.map (some M)) v p false w h.blk (by omega) hs (.inr ⟨rfl, by omega⟩)
    have he := match_end (s := sl s) (p := p) (by rw [sl_len]; omega)
    have HM := Lib.hid hM
    have HE := Lib.hid he
    clear hM he h hn hmay
    go_enter Try.func19, Try.ntmps19
    go_wp2_with fail
    (with_reducible refine HM.out.mono ?_)
    rintro e w1 ⟨rfl, rfl⟩
    go_wp2
    go_ret2
    exact ⟨by rw [HE.out]; rfl, DrW.refl _⟩
end Go.Proofs.Ytloncdnnblkpdaa
