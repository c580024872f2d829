/- Walk of slices.SortStableFunc, of pointers to leaves by what these weigh. -/
import Derived.Test.YtpjdlkbpnodcdaaPMrgR
import Derived.Test.YtpjdlkbpnodcdaaPStbN
namespace Go.Proofs.Ytpjdlkbpnodcdaa
open Go.RowKit
set_option linter.unusedVariables false

theorem z_mrg (g cap len : Nat) (N k : Nat → Nat) (I : List Nat) (rest : List Value) (hl : len ≤ 1000000) : ∀ n, MrgSaid g cap len N k I [] rest n
  | 0 => fun a m b x L R y w hn h2 _ _ => by have := h2.hL; omega
  | n + 1 => fun a m b x L R y w hn h2 hR hN => by
    by_cases e1 : L.length = 1
    · exact z_mrg1 g cap len a m b N k I x L R y rest [] w w h2 e1 hR hN hl
    · by_cases e2 : R.length = 1
      · exact z_mrg2 g cap len a m b N k I x L R y rest [] w w h2 e1 e2 hR hN hl
      · exact z_mrg3 g cap len a m b n N k I x L R y rest w (z_mrg g cap len N k I rest hl n) hn h2 e1 e2 hR hN hl
set_option maxRecDepth 100000 in
theorem z_ins0 (p : Option Addr) (len cap a : Nat) (w : World) (hl : a ≤ 1000000) :
    Calls Try.prog 63 #[.slice p len cap, .int .i64 (a : Int), .int .i64 (a : Int), fcmp] w fun e w' => e = .returned (.tuple #[]) ∧ w = w' := by
  unfold fcmp
  have i1 : (a : Int) ≤ 1000000 := by omega
  have i2 : ¬ (a : Int) + 1 < (a : Int) := by omega
  go_enter Try.func63, Try.ntmps63
  go_wp2
  go_loop [8] (fun i => i = .int .i64 ((a : Int) + 1)) (fun i => 0)
  case atStart => rfl
  case round =>
    subst hrel
    go_wp2
    go_end0
    exact ⟨rfl, rfl⟩
set_option maxRecDepth 100000 in
set_option maxHeartbeats 4000000 in
theorem z_stable (g cap n : Nat) (N k : Nat → Nat) (I : List Nat) (rest : List Value) (w : World) (hn : I.length = n) (hI : I.Pairwise (· < ·)) (hR : Blk w g 83 (ptrs N I ++ rest)) (hN : Nds w N k I) (hl : n ≤ 300) (h0 : 0 < n) :
    Calls Try.prog 61 #[.slice (some ⟨g, 0, none⟩) n cap, .int .i64 (n : Int), fcmp] w fun e w' => e = .returned (.tuple #[]) ∧ ∃ S, S.Perm I ∧ Srt k S ∧ Turned w w' g 83 (ptrs N S ++ rest) := by
  have hT := Turned.refl hR
  have hP : Ph1 k I n 0 I := by subst hn; exact Ph1.first k I
  have hINS := fun (a b : Nat) (d : List Nat) (w1 : World) (T : Turned w w1 g 83 (ptrs N d ++ rest)) (P : Ph1 k I n a d) (ha : 20 ∣ a) (hab : a ≤ b) (hb : b = min (a + 20) n) =>
    show Calls Try.prog 63 #[.slice (some ⟨g, 0, none⟩) n cap, .int .i64 (a : Int), .int .i64 (b : Int), fcmp] w1 fun e w' => e = .returned (.tuple #[]) ∧ ∃ d', Ph1 k I n b d' ∧ Turned w w' g 83 (ptrs N d' ++ rest) from by
      rcases Nat.lt_or_ge a b with h | h
      · have hrow := P.row hn hab (by omega)
        have hla : (d.take a).length = a := by rw [List.length_take, P.len]; omega
        have hT1 := T
        rw [hrow] at hT1
        refine (z_ins g cap n a b N k (d.take a) (seg I a b) (d.drop b) rest w1 (by rw [← hrow]; exact P.len) hla (by rw [seg_len (by omega)]; omega) (by rw [seg_len (by omega)]; omega) ?_ hT1.2 ?_ (by omega)).mono ?_
        · exact (hI.sublist (List.take_sublist _ _)).sublist (List.drop_sublist _ _)
        · rw [← hrow]
          intro z hz
          exact hN.turned T hR z (P.perm.subset hz)
        · rintro e w' ⟨he, S, q1, q2, q3⟩
          exact ⟨he, _, P.step hn ha hab hb q1 q2, hT1.trans q3⟩
      · obtain rfl : a = b := by omega
        refine (z_ins0 _ n cap a w1 (by omega)).mono ?_
        rintro e w' ⟨he, rfl⟩
        exact ⟨he, d, ⟨P.len, P.perm, P.low, P.high⟩, T⟩
  have hMRG := fun (bs a b : Nat) (d : List Nat) (w1 : World) (T : Turned w w1 g 83 (ptrs N d ++ rest)) (P : Ph2 k I n bs a d) (hb0 : 0 < bs) (ha : 2 * bs ∣ a) (hm : a + bs < n) (hb : b = min (a + 2 * bs) n) =>
    show Calls Try.prog 64 #[.slice (some ⟨g, 0, none⟩) n cap, .int .i64 (a : Int), .int .i64 ((a + bs : Nat) : Int), .int .i64 (b : Int), fcmp] w1 fun e w' => e = .returned (.tuple #[]) ∧ ∃ d', Ph2 k I n bs b d' ∧ Turned w w' g 83 (ptrs N d' ++ rest) from by
      obtain ⟨h2, e⟩ := P.two hI hn hb0 ha hm hb
      have hT1 := T
      rw [← e] at hT1
      refine (z_mrg g cap n N k I rest (by omega) _ a (a + bs) b _ _ _ _ w1 (Nat.le_refl _) h2 hT1.2 (hN.turned T hR)).mono ?_
      rintro e w' ⟨he, S, q1, q2, q3⟩
      exact ⟨he, _, P.step hn hb0 ha hm hb q1 q2, hT1.trans q3⟩
  unfold fcmp at hINS hMRG
  unfold fcmp
  have HT := Lib.hid hT
  have HP := Lib.hid hP
  have HINS := Lib.hid hINS
  have HMRG := Lib.hid hMRG
  have i0 : (n : Int) ≤ 300 := by omega
  clear hT hP hINS hMRG hR hN hn hI
  go_enter Try.func61, Try.ntmps61
  go_wp2
  go_loopw [7, 8] (fun i j wr => ∃ (a : Nat) (d : List Nat), 20 ∣ a ∧ a ≤ n ∧ i = .int .i64 (a : Int) ∧ j = .int .i64 ((a : Int) + 20) ∧ Ph1 k I n a d ∧ Turned w wr g 83 (ptrs N d ++ rest)) (fun i j _ => n + 20 - (intOf j).toNat)
  case atStart => exact ⟨0, I, by omega, by omega, rfl, rfl, HP.out, HT.out⟩
  case round =>
    obtain ⟨a, d, ha, han, rfl, rfl, gP, gt⟩ := hrel
    clear HT HP
    by_cases hlt : a + 20 ≤ n
    · have d1 : (a : Int) + 20 ≤ (n : Int) := by omega
      have hC := HINS.out a (a + 20) d _ gt gP ha (by omega) (by omega)
      have ea : ((a + 20 : Nat) : Int) = (a : Int) + 20 := by simp
      rw [ea] at hC
      have HC := Lib.hid hC
      clear hC gP gt ea
      go_wp2_with fail
      (with_reducible refine HC.out.mono ?_)
      rintro e w9 ⟨rfl, d', q1, q2⟩
      clear HC
      go_wp2
      go_roundw
      case rel => exact ⟨a + 20, d', by omega, by omega, by first | rfl | go_num, by first | rfl | go_num | (congr 1; omega), q1, q2⟩
      case measure => (simp [intOf]; try omega)
    · have d1 : ¬ (a : Int) + 20 ≤ (n : Int) := by omega
      have hC := HINS.out a n d _ gt gP ha han (by omega)
      have HC := Lib.hid hC
      clear hC gP gt
      go_wp2_with fail
      (with_reducible refine HC.out.mono ?_)
      rintro e w9 ⟨rfl, d', q1, q2⟩
      have Q1 := Lib.hid q1.second
      clear HC q1
      go_wp2_with fail
      go_loopw [6] (fun i wr => ∃ (bs : Nat) (d : List Nat), 20 ≤ bs ∧ bs ≤ 640 ∧ i = .int .i64 (bs : Int) ∧ Ph2 k I n bs 0 d ∧ Turned w wr g 83 (ptrs N d ++ rest)) (fun i _ => n - (intOf i).toNat)
      case atStart => exact ⟨20, d', by omega, by omega, rfl, Q1.out, q2⟩
      case round =>
        obtain ⟨bs, d, hb1, hb2, rfl, gP, gt⟩ := hrel
        clear Q1 q2
        by_cases hlt2 : bs < n
        · have d2 : (bs : Int) < (n : Int) := by omega
          have GP := Lib.hid gP
          clear gP
          go_wp2_with fail
          go_loopw [7, 8] (fun i j wr => ∃ (a : Nat) (d : List Nat), 2 * bs ∣ a ∧ a ≤ n ∧ i = .int .i64 (a : Int) ∧ j = .int .i64 ((a : Int) + 2 * (bs : Int)) ∧ Ph2 k I n bs a d ∧ Turned w wr g 83 (ptrs N d ++ rest)) (fun i j _ => n + 2 * bs - (intOf j).toNat)
          case atStart => exact ⟨0, d, Nat.dvd_zero _, by omega, rfl, by first | rfl | (congr 1; omega) | simp, GP.out, gt⟩
          case round =>
            obtain ⟨a, d, ha, han, rfl, rfl, gP, gt⟩ := hrel
            clear GP
            by_cases hlt3 : a + 2 * bs ≤ n
            · have d3 : (a : Int) + 2 * (bs : Int) ≤ (n : Int) := by omega
              have hC := HMRG.out bs a (a + 2 * bs) d _ gt gP (by omega) ha (by omega) (by omega)
              have ea : ((a + 2 * bs : Nat) : Int) = (a : Int) + 2 * (bs : Int) := by simp
              have eb : ((a + bs : Nat) : Int) = (a : Int) + (bs : Int) := by simp
              rw [ea, eb] at hC
              have HC := Lib.hid hC
              clear hC gP gt ea eb
              go_wp2_with fail
              (with_reducible refine HC.out.mono ?_)
              rintro e w9 ⟨rfl, d', q1, q2⟩
              clear HC
              go_wp2
              go_roundw
              case rel => exact ⟨a + 2 * bs, d', Nat.dvd_add ha (Nat.dvd_refl _), by omega, by first | rfl | go_num | (congr 1; omega), by first | rfl | go_num | (congr 1; omega), q1, q2⟩
              case measure => (simp [intOf]; try omega)
            · have d3 : ¬ (a : Int) + 2 * (bs : Int) ≤ (n : Int) := by omega
              by_cases hlt4 : a + bs < n
              · have d4 : (a : Int) + (bs : Int) < (n : Int) := by omega
                have hC := HMRG.out bs a n d _ gt gP (by omega) ha hlt4 (by omega)
                have eb : ((a + bs : Nat) : Int) = (a : Int) + (bs : Int) := by simp
                rw [eb] at hC
                have HC := Lib.hid hC
                clear hC gP gt eb
                go_wp2_with fail
                (with_reducible refine HC.out.mono ?_)
                rintro e w9 ⟨rfl, d', q1, q2⟩
                clear HC
                have q1 := q1.next (Nat.le_refl _)
                go_wp2
                go_roundw
                case rel => exact ⟨2 * bs, d', by omega, by omega, by first | rfl | go_num | (congr 1; omega), q1, q2⟩
                case measure => (simp [intOf]; try omega)
              · have d4 : ¬ (a : Int) + (bs : Int) < (n : Int) := by omega
                have q1 := (gP.rest ha (by omega)).next (Nat.le_refl _)
                clear gP
                go_wp2
                go_roundw
                case rel => exact ⟨2 * bs, d, by omega, by omega, by first | rfl | go_num | (congr 1; omega), q1, gt⟩
                case measure => (simp [intOf]; try omega)
        · have d2 : ¬ (bs : Int) < (n : Int) := by omega
          have q1 := gP.last h0 (by omega)
          have q0 := gP.perm
          clear gP
          go_wp2
          go_end0
          exact ⟨rfl, d, q0, q1, gt⟩
theorem z_sort (g cap n : Nat) (N k : Nat → Nat) (I : List Nat) (rest : List Value) (w : World) (hn : I.length = n) (hI : I.Pairwise (· < ·)) (hR : Blk w g 83 (ptrs N I ++ rest)) (hN : Nds w N k I) (hl : n ≤ 300) (h0 : 0 < n) :
    Calls Try.prog 57 #[.slice (some ⟨g, 0, none⟩) n cap, fcmp] w fun e w' => e = .returned (.tuple #[]) ∧ ∃ S, S.Perm I ∧ Srt k S ∧ Turned w w' g 83 (ptrs N S ++ rest) := by
  have hC := z_stable g cap n N k I rest w hn hI hR hN hl h0
  unfold fcmp at hC ⊢
  have HC := Lib.hid hC
  clear hC hn hI hR hN
  go_enter Try.func57, Try.ntmps57
  go_wp2_with fail
  (with_reducible refine HC.out.mono ?_)
  rintro e w9 ⟨rfl, S, q1, q2, q3⟩
  go_wp2
  go_end0
  exact ⟨rfl, S, q1, q2, q3⟩
theorem z_sort0 (w : World) : Calls Try.prog 57 #[.slice none 0 0, fcmp] w fun e w' => e = .returned (.tuple #[]) ∧ w = w' := by
  have hI := z_ins0 none 0 0 0 w (by omega)
  have e0 : ((0 : Nat) : Int) = 0 := rfl
  rw [e0] at hI
  clear e0
  unfold fcmp at hI ⊢
  have HI := Lib.hid hI
  clear hI
  have hS : Calls Try.prog 61 #[.slice none 0 0, .int .i64 0, .func (.func 58) #[] #[]] w fun e w' => e = .returned (.tuple #[]) ∧ w = w' := by
    go_enter Try.func61, Try.ntmps61
    go_wp2
    go_loop [7, 8] (fun i j => i = .int .i64 0 ∧ j = .int .i64 20) (fun _ _ => 0)
    case atStart => exact ⟨rfl, rfl⟩
    case round =>
      obtain ⟨rfl, rfl⟩ := hrel
      go_wp2_with fail
      (with_reducible refine HI.out.mono ?_)
      rintro e w9 ⟨rfl, rfl⟩
      go_wp2
      go_loop [6] (fun i => i = .int .i64 20) (fun _ => 0)
      case atStart => rfl
      case round =>
        subst hrel
        go_wp2
        go_end0
        exact ⟨rfl, rfl⟩
  have HS := Lib.hid hS
  clear hS
  go_enter Try.func57, Try.ntmps57
  go_wp2_with fail
  (with_reducible refine HS.out.mono ?_)
  rintro e w9 ⟨rfl, rfl⟩
  go_wp2
  go_end0
  exact ⟨rfl, rfl⟩
end Go.Proofs.Ytpjdlkbpnodcdaa
