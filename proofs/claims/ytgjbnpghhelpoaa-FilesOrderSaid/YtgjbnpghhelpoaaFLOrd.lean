/-
  For every list of files that may be, of two to eleven: with two neighbours the other way round, or with one twice, it may not be, by its order; its beginning may be. Lists beyond the bound are answered by the case shown alone, all others by nothing. No condition.
-/
import Derived.Test.YtgjbnpghhelpoaaRows
import Derived.Test.YtgjbnpghhelpoaaFC
import Derived.Test.YtgjbnpghhelpoaaFD
import Derived.Test.YtgjbnpghhelpoaaG3
import Derived.Test.YtgjbnpghhelpoaaG1
import Derived.ShutString
import Derived.ChangeOld
namespace Go.Proofs.Ytgjbnpghhelpoaa.filesOrder
open Go.ChangeShapes Go.WideShapes Go.ChangeAt Go.RowKit
open Go.ChangeMaps (open_string shut_string)
set_option linter.unusedVariables false

/-- the worlds in which two files change places -/
def swC (w : World) (g : Nat) (c0 c1 : List Value) (b : Bool) (W : World) : Prop := Blk W g 40 (if b then c1 else c0) ∧ Below w.heap.size w W
def swS (g n cap i : Nat) (A B : List Value) (k : Nat) (v : Value) (W : World) : Prop :=
  match k with
  | 0 | 2 | 5 | 10 => v = .slice (some ⟨g, 0, none⟩) n cap
  | 1 | 3 | 6 | 11 => v = .int .i64 (i : Int)
  | 4 | 7 => v = .int .i64 ((i : Int) + 1)
  | 8 | 16 => v = .pointer (some ⟨g, (i + 1) * 2, none⟩)
  | 9 => v = .agg B.toArray
  | 12 | 14 => v = .pointer (some ⟨g, i * 2, none⟩)
  | 13 => v = .agg A.toArray
  | _ => True
theorem swS_mono {g n cap i : Nat} {A B : List Value} (k : Nat) (v : Value) (W W' : World) (h : swS g n cap i A B k v W) : swS g n cap i A B k v W' :=
  match k with
  | 0 | 1 | 2 | 3 | 4 | 5 | 6 | 7 | 8 | 9 | 10 | 11 | 12 | 13 | 14 | 15 | 16 => h
  | _ + 17 => trivial
/-- the worlds in which one file is put in twice -/
def twC (w : World) (g B : Nat) (c2 : List Value) (W : World) : Prop := Below w.heap.size w W ∧ Blk W g 40 c2 ∧ B ≤ W.heap.size
def twS (a : Addr) (n cap i B : Nat) (R1 R2 : List (List Value)) (b : Bool) (k : Nat) (v : Value) (W : World) : Prop :=
  match k with
  | 0 => ∃ D, v = .slice (some ⟨D, 0, none⟩) 0 0
  | 1 | 6 => v = .slice (some a) n cap
  | 2 | 7 => v = .int .i64 (i : Int)
  | 3 => v = .int .i64 ((i : Int) + 1)
  | 4 => v = .slice (some a) (i + 1) cap
  | 5 => b = false → OwnR W B 40 2 v R1
  | 8 => v = .slice (some (a.add (i * 2))) (n - i) (cap - i)
  | 9 | 10 => b = true ∧ OwnR W B 40 2 v (R1 ++ R2)
  | _ => True
theorem twS_mono {a : Addr} {n cap i B : Nat} {R1 R2 : List (List Value)} (b : Bool) (k : Nat) (v : Value) (W W' : World) (h : twS a n cap i B R1 R2 b k v W) (hb : Below W.heap.size W W') : twS a n cap i B R1 R2 b k v W' :=
  match k with
  | 0 | 1 | 2 | 3 | 4 | 6 | 7 | 8 => h
  | 5 => fun e => (h e).keep hb
  | 9 | 10 => ⟨h.1, h.2.keep hb⟩
  | _ + 11 => trivial
theorem twS_turn {a : Addr} {n cap i B : Nat} {R1 R2 : List (List Value)} (k : Nat) (v : Value) (W W' : World) (h : twS a n cap i B R1 R2 false k v W) : twS a n cap i B R1 R2 true k v W' :=
  match k with
  | 0 | 1 | 2 | 3 | 4 | 6 | 7 | 8 => h
  | 5 => fun e => by cases e
  | 9 | 10 => by cases h.1
  | _ + 11 => trivial
theorem swap_len (l : List (List Nat × List Nat)) (i : Nat) : (swapF l i).length = l.length := by simp [swapF]
theorem swap_bys {l : List (List Nat × List Nat)} (h : ∀ f ∈ l, Bys f.1) {i : Nat} (hi : i + 1 < l.length) : ∀ f ∈ swapF l i, Bys f.1 := fun f hf => by
  unfold swapF at hf
  rcases List.mem_or_eq_of_mem_set hf with hf | rfl
  · rcases List.mem_or_eq_of_mem_set hf with hf | rfl
    · exact h f hf
    · exact h _ (getF_mem hi)
  · exact h _ (getF_mem (by omega))
set_option maxHeartbeats 4000000 in
set_option maxRecDepth 100000 in
theorem walk (l : List (List Nat × List Nat)) (p : Option Addr) (cap : Nat) (k : Int) (hx : (∀ f ∈ l, Bys f.1 ∧ Bys f.2) ∧ (Value.slice p l.length cap = .slice none 0 0 ∨ ∃ ad n c, Value.slice p l.length cap = .slice (some ad) n c) ∧ l.length ≤ cap ∧ cap ≤ maxLen) (hk : (Lit.int .u8 k).wf = true) (w : World) (hS : Sl w 2 (.slice p l.length cap) (rowsF l)) :
    Calls Try.prog 6 #[.slice p l.length cap, .int .u8 k] w fun e w' => e = .returned (.bool true) ∧ Below w.heap.size w w' := by
  obtain ⟨hys, hnil, hcap, hmax⟩ := hx
  obtain ⟨k, rfl, hk256⟩ := nat_u8 k hk
  have HSh := Lib.hid (fun w => l11_shown w)
  have HS := Lib.hid hS
  obtain ⟨b, hb⟩ : ∃ b, heavyF l = b := ⟨_, rfl⟩
  have HV := Lib.hid (f_heavy l p cap b w hb hS)
  have HY := Lib.hid hys
  clear hS hk hys
  cases b with
  | true =>
    clear hb
    go_enter Try.func6, Try.ntmps6
    go_wp2_with (first | (go_at_call 9; (with_reducible refine (HSh.out _).mono ?_); rintro e w1 ⟨rfl, hb1⟩) | (go_at_call 8; (with_reducible refine HV.out.mono ?_); rintro e w0 ⟨rfl, hb0⟩))
    go_ret
    exact ⟨rfl, hb0.trans (hb1.mono hb0.size)⟩
  | false =>
    obtain ⟨h30, hlight⟩ := heavy_no.1 hb
    clear hb
    obtain ⟨n, hn⟩ : ∃ n, checkF l = n := ⟨_, rfl⟩
    have HC := Lib.hid (fun (wx : World) (h : Below w.heap.size w wx) => f_Check l p cap n wx hn (fun f hf => (HY.out f hf).1) (by omega) (HS.out.below h))
    by_cases hn0 : n = 0
    · subst hn0
      by_cases hl2 : l.length < 2
      · have g1 : (l.length : Int) < 2 := by omega
        clear hn
        go_enter Try.func6, Try.ntmps6
        go_wp2_with (first | (go_at_call 9; (with_reducible refine (HSh.out _).mono ?_); rintro e w1 ⟨rfl, hb1⟩; have hb2 := hb0.trans (hb1.mono hb0.size)) | (go_at_call 8; (with_reducible refine HV.out.mono ?_); rintro e w0 ⟨rfl, hb0⟩) | (go_at_call 12; refine (HC.out _ hb2).mono ?_; rintro e w3 ⟨rfl, hb3⟩))
        go_ret
        exact ⟨rfl, hb2.trans (hb3.mono hb2.size)⟩
      · by_cases hl11 : 11 < l.length
        · have g1 : ¬ (l.length : Int) < 2 := by omega
          have g2 : (11 : Int) < (l.length : Int) := by omega
          clear hn
          go_enter Try.func6, Try.ntmps6
          go_wp2_with (first | (go_at_call 9; (with_reducible refine (HSh.out _).mono ?_); rintro e w1 ⟨rfl, hb1⟩; have hb2 := hb0.trans (hb1.mono hb0.size)) | (go_at_call 8; (with_reducible refine HV.out.mono ?_); rintro e w0 ⟨rfl, hb0⟩) | (go_at_call 12; refine (HC.out _ hb2).mono ?_; rintro e w3 ⟨rfl, hb3⟩))
          go_ret
          exact ⟨rfl, hb2.trans (hb3.mono hb2.size)⟩
        · have g1 : ¬ (l.length : Int) < 2 := by omega
          have g2 : ¬ (11 : Int) < (l.length : Int) := by omega
          have m1 : 2 ≤ l.length := by omega
          have m2 : l.length ≤ 11 := by omega
          clear hl2 hl11
          obtain ⟨a, rfl, _⟩ := (HS.out).row (rowsF_at (l := l) (j := 0) (by omega))
          obtain ⟨i, hi⟩ : ∃ i, k % (l.length - 1) = i := ⟨_, rfl⟩
          have hil : i + 1 < l.length := by have := Nat.mod_lt k (show 0 < l.length - 1 by omega); omega
          have hrem : (k : Int) % ((l.length : Int) - 1) = (i : Int) := by
            rw [← hi, show (l.length : Int) - 1 = ((l.length - 1 : Nat) : Int) by omega]; rfl
          obtain ⟨i0, hi0, hz0, hz1, hz2⟩ := info_parts2 info_file
          have hp1 := rowsF_one (l := l)
          have HP1 := Lib.hid hp1
          have HLN : Hid (0 < (rowsF l).length) := Lib.hid (by rw [rowsF_len]; omega)
          have H63 : Hid ((rowsF l).length ≤ maxLen) := Lib.hid (by rw [rowsF_len]; unfold maxLen; omega)
          have HBY : Hid ((rowsF l).length * 32 ≤ 140737488355328) := Lib.hid (by rw [rowsF_len]; omega)
          have HN := Lib.hid hn
          have HIL := Lib.hid hil
          have HM := Lib.hid (And.intro m1 m2)
          have g3 : ¬ ((l.length : Int) - 1 = 0) := by omega
          have hk1 : (k : Int) < 256 := by omega
          clear hp1 hn hnil hk256 h30 hlight hi m1 m2 hil
          go_enter Try.func6, Try.ntmps6
          go_wp2_with (first | (go_at_call 9; (with_reducible refine (HSh.out _).mono ?_); rintro e w1 ⟨rfl, hb1⟩; have hb2 := hb0.trans (hb1.mono hb0.size)) | (go_at_call 8; (with_reducible refine HV.out.mono ?_); rintro e w0 ⟨rfl, hb0⟩) | (go_at_call 12; refine (HC.out _ hb2).mono ?_; rintro e w3 ⟨rfl, hb3⟩; have hb4 := hb2.trans (hb3.mono hb2.size); have HB5 := Lib.hid (hb4.alloc hb4.size (.cells #[] 40)); have HS5 := Lib.hid (HS.out.below HB5.out); clear hb0 hb1 hb2 hb3 hb4) | (refine wpList_append_empty rfl _ _ 22 rfl 40 i0 (.agg #[.string ⟨#[]⟩, .string ⟨#[]⟩]) 2 32 Try.underlying22 hi0 hz0 hz1 hz2 rfl (by decide) w3.heap.size rfl (.slice (some a) l.length cap) (rowsF l) rfl HS5.out HP1.out HLN.out H63.out HBY.out ?_; intro v6 w6 ho6 hb6; have HO6 := Lib.hid ho6; have HB6 := Lib.hid (HB5.out.trans (hb6.mono HB5.out.size)); clear ho6 hb6))
          obtain ⟨g, cap6, rest, rfl, hg6, hb6⟩ := HO6.out.blkR HLN.out
          have hlg := hb6.lt
          rw [rowsF_len]
          have hai := HIL.out
          obtain ⟨X1, Z1, hc1, hX1, hset1⟩ := file_cut l rest (i := i) (by omega)
          obtain ⟨X2, Z2, hc2, hX2, hset2⟩ := file_cut (l.set i (l.getD (i + 1) noF)) rest (i := i + 1) (by rw [List.length_set]; exact hai)
          have hset1 := hset1 (l.getD (i + 1) noF)
          have hset2 := hset2 (l.getD i noF)
          obtain ⟨c0, hc0⟩ : ∃ c, (rowsF l).flatten ++ rest = c := ⟨_, rfl⟩
          obtain ⟨A, hA⟩ : ∃ A, rowF (l.getD i noF) = A := ⟨_, rfl⟩
          obtain ⟨B, hB⟩ : ∃ B, rowF (l.getD (i + 1) noF) = B := ⟨_, rfl⟩
          have lA : A.length = 2 := by rw [← hA]; rfl
          have lB : B.length = 2 := by rw [← hB]; rfl
          have oA : A.toArray.all (·.oneCell') = true := by rw [← hA]; exact rowF_one _
          have oB : B.toArray.all (·.oneCell') = true := by rw [← hB]; exact rowF_one _
          have LA : Hid (∀ W, Blk W g 40 c0 → ∀ k v, A[k]? = some v → W.cell? ((⟨g, i * 2, none⟩ : Addr).add k) = some v) := Lib.hid fun W hW => by
            rw [← hc0] at hW
            rw [← hA]
            exact file_load hW (by omega)
          have LB : Hid (∀ W, Blk W g 40 c0 → ∀ k v, B[k]? = some v → W.cell? ((⟨g, (i + 1) * 2, none⟩ : Addr).add k) = some v) := Lib.hid fun W hW => by
            rw [← hc0] at hW
            rw [← hB]
            exact file_load hW hai
          rw [hc0] at hb6 hc1
          rw [hB] at hset1
          rw [hA] at hc1 hset2
          obtain ⟨C2, hC2⟩ : ∃ C, rowF ((l.set i (l.getD (i + 1) noF)).getD (i + 1) noF) = C := ⟨_, rfl⟩
          have lC2 : C2.length = 2 := by rw [← hC2]; rfl
          rw [hC2] at hc2
          rw [hset1] at hc2
          have hsw : (rowsF (swapF l i)).flatten ++ rest = X2 ++ (A ++ Z2) := hset2
          have HSW := Lib.hid hsw
          have HC1 := Lib.hid hc1
          have HC2 := Lib.hid hc2
          have H6 := Lib.hid hb6
          have X1L := Lib.hid hX1
          have X2L := Lib.hid hX2
          have HLA := Lib.hid lA
          have HLB := Lib.hid lB
          have HLC := Lib.hid lC2
          have OA := Lib.hid oA
          have OB := Lib.hid oB
          have HBS := HB6
          have d1 : (i : Int) + 1 < (l.length : Int) := by omega
          have d2 : (i : Int) < (l.length : Int) := by omega
          have HG := Lib.hid (Nat.le_trans HB5.out.size hg6)
          have HLG := Lib.hid hlg
          clear hsw hc0 hc1 hc2 hb6 hX1 hX2 hset1 hset2 hA hB hC2 lC2 oA oB hg6 hlg HO6 HS5 HB5 HB6 HLN H63 HBY HP1
          refine region_mix 15 17 (by decide) mixed (by kernel_rfl) (by kernel_rfl) (fun u => ((_ :: _ :: _ :: _ :: _ :: _ :: _ :: _ :: _ :: _ :: _ :: _ :: _ :: _ :: _ :: _ :: _ :: _ :: _ :: _ :: _ :: _ :: _ :: _ :: _ :: _ :: _ :: _ :: _ :: _ :: _ :: _ :: _ :: _ :: _ :: _ :: _ :: u 0 :: u 1 :: u 2 :: u 3 :: u 4 :: u 5 :: u 6 :: u 7 :: u 8 :: u 9 :: u 10 :: u 11 :: u 12 :: u 13 :: u 14 :: u 16 :: _ :: _ :: _ :: _ :: _ :: _ :: _ :: _ :: _ :: _ :: _ :: _ :: _ :: _ :: _ :: _ :: _ :: _ :: _ :: _ :: _ :: _ :: _ :: _ :: _ :: []) : List Value).toArray) [] (fun i => match i with | 0 => _ | 1 => _ | 2 => _ | 3 => _ | 4 => _ | 5 => _ | 6 => _ | 7 => _ | 8 => _ | 9 => _ | 10 => _ | 11 => _ | 12 => _ | 13 => _ | 14 => _ | 16 => _ | _ => undef) rfl
            (swC w g c0 (X1 ++ (B ++ Z1))) ⟨H6.out, HBS.out.drew⟩ (fun _ _ _ => True) (swS g l.length cap6 i A B) ?mono ?step ?one ?last
          case mono => exact fun b i v W W' _ h _ => swS_mono i v W W' h
          case step =>
            intro bb u W k o hk hik hnb ho hC hd
            rcases k with _ | _ | _ | _ | _ | _ | _ | _ | _ | _ | _ | _ | _ | _ | _ | _ | _ | k
            all_goals try (simp only [List.getElem?_cons_zero, List.getElem?_cons_succ, Option.some.injEq] at ho; subst ho)
            · go_wp2_with fail
              exact ⟨_, rfl, rfl, hC, trivial⟩
            · go_wp2_with fail
              exact ⟨_, rfl, rfl, hC, trivial⟩
            · go_wp2_with fail
              exact ⟨_, rfl, rfl, hC, trivial⟩
            · go_wp2_with fail
              exact ⟨_, rfl, rfl, hC, trivial⟩
            · have h0 : u 3 = .int .i64 (i : Int) := hd ⟨3, .data⟩ (by simp) rfl
              rw [h0]
              go_wp2_with fail
              exact ⟨_, by simp [upd, h0], rfl, hC, trivial⟩
            · go_wp2_with fail
              exact ⟨_, rfl, rfl, hC, trivial⟩
            · go_wp2_with fail
              exact ⟨_, rfl, rfl, hC, trivial⟩
            · have h0 : u 6 = .int .i64 (i : Int) := hd ⟨6, .data⟩ (by simp) rfl
              rw [h0]
              go_wp2_with fail
              exact ⟨_, by simp [upd, h0], rfl, hC, trivial⟩
            · have h0 : u 5 = .slice (some ⟨g, 0, none⟩) l.length cap6 := hd ⟨5, .data⟩ (by simp) rfl
              have h1 : u 7 = .int .i64 ((i : Int) + 1) := hd ⟨7, .data⟩ (by simp) rfl
              rw [h0, h1]
              go_wp2_with fail
              exact ⟨_, by simp [upd, h0, h1], rfl, hC, trivial⟩
            · cases bb with
              | true => exact absurd (hnb rfl) (by decide +kernel)
              | false =>
                have h0 : u 8 = .pointer (some ⟨g, (i + 1) * 2, none⟩) := hd ⟨8, .data⟩ (by simp) rfl
                have hcl := LB.out W hC.1
                have HCL := Lib.hid hcl
                clear hcl
                rw [h0]
                go_wp2_with (refine wpList_load_addr rfl 40 _ rfl ⟨g, (i + 1) * 2, none⟩ rfl B HCL.out Try.underlying40 rfl (by rw [size_file, HLB.out]) ?_)
                exact ⟨_, by simp [upd, h0], rfl, hC, trivial⟩
            · go_wp2_with fail
              exact ⟨_, rfl, rfl, hC, trivial⟩
            · go_wp2_with fail
              exact ⟨_, rfl, rfl, hC, trivial⟩
            · have h0 : u 10 = .slice (some ⟨g, 0, none⟩) l.length cap6 := hd ⟨10, .data⟩ (by simp) rfl
              have h1 : u 11 = .int .i64 ((i : Int)) := hd ⟨11, .data⟩ (by simp) rfl
              rw [h0, h1]
              go_wp2_with fail
              exact ⟨_, by simp [upd, h0, h1], rfl, hC, trivial⟩
            · cases bb with
              | true => exact absurd (hnb rfl) (by decide +kernel)
              | false =>
                have h0 : u 12 = .pointer (some ⟨g, i * 2, none⟩) := hd ⟨12, .data⟩ (by simp) rfl
                have hcl := LA.out W hC.1
                have HCL := Lib.hid hcl
                clear hcl
                rw [h0]
                go_wp2_with (refine wpList_load_addr rfl 40 _ rfl ⟨g, i * 2, none⟩ rfl A HCL.out Try.underlying40 rfl (by rw [size_file, HLA.out]) ?_)
                exact ⟨_, by simp [upd, h0], rfl, hC, trivial⟩
            · have h0 : u 0 = .slice (some ⟨g, 0, none⟩) l.length cap6 := hd ⟨0, .data⟩ (by simp) rfl
              have h1 : u 1 = .int .i64 ((i : Int)) := hd ⟨1, .data⟩ (by simp) rfl
              rw [h0, h1]
              go_wp2_with fail
              exact ⟨_, by simp [upd, h0, h1], rfl, hC, trivial⟩
            · exact absurd rfl hik
            · have h0 : u 2 = .slice (some ⟨g, 0, none⟩) l.length cap6 := hd ⟨2, .data⟩ (by simp) rfl
              have h1 : u 4 = .int .i64 ((i : Int) + 1) := hd ⟨4, .data⟩ (by simp) rfl
              rw [h0, h1]
              go_wp2_with fail
              exact ⟨_, by simp [upd, h0, h1], rfl, hC, trivial⟩
            · omega
          case one =>
            intro u W o ho hC hd
            simp only [List.getElem?_cons_zero, List.getElem?_cons_succ, Option.some.injEq] at ho
            subst ho
            have h14 : u 14 = .pointer (some ⟨g, i * 2, none⟩) := hd ⟨14, .data⟩ (by simp) rfl
            have h9 : u 9 = .agg B.toArray := hd ⟨9, .data⟩ (by simp) rfl
            have hB : Blk W g 40 (X1 ++ (A ++ Z1)) := by have := hC.1; rw [← HC1.out]; exact this
            have hW := hC.2
            have HBW := Lib.hid hB
            have HW := Lib.hid hW
            clear hC hd hB hW
            rw [h14, h9]
            go_wp2_with (refine wpList_store_part rfl 40 _ _ rfl g (i * 2) rfl B rfl X1 A Z1 HBW.out X1L.out.symm (by rw [HLA.out, HLB.out]) (by rw [size_file, HLB.out]) OB.out ?_; intro w7 hb7 hbel7 _; have HB7 := Lib.hid hb7; have HW7 := Lib.hid (HW.out.trans (hbel7.mono HG.out)); clear hb7 hbel7)
            exact ⟨undef, by simp [upd, h14, h9]; rfl, trivial, ⟨HB7.out, HW7.out⟩, trivial⟩
          case last =>
            intro u W o ho hC hSS
            simp only [List.getElem?_cons_zero, List.getElem?_cons_succ, Option.some.injEq] at ho
            subst ho
            have h16 : u 16 = .pointer (some ⟨g, (i + 1) * 2, none⟩) := hSS 16 (by decide)
            have h13 : u 13 = .agg A.toArray := hSS 13 (by decide)
            have hB : Blk W g 40 (X2 ++ (C2 ++ Z2)) := by have := hC.1; rw [← HC2.out]; exact this
            have HBW := Lib.hid hB
            have HW := Lib.hid hC.2
            clear hC hSS hB
            rw [h16, h13]
            go_wp2_with (refine wpList_store_part rfl 40 _ _ rfl g ((i + 1) * 2) rfl A rfl X2 C2 Z2 HBW.out X2L.out.symm (by rw [HLC.out, HLA.out]) (by rw [size_file, HLA.out]) OA.out ?_; intro w7 hb7 hbel7 _; have HB7 := Lib.hid hb7; have HW7 := Lib.hid (HW.out.trans (hbel7.mono HG.out)); clear hb7 hbel7)
            obtain ⟨B8, hB8⟩ : ∃ B8, w7.heap.size = B8 := ⟨_, rfl⟩
            have hg8 : g < B8 := by rw [← hB8]; exact HB7.out.lt
            have HC7 : Hid (twC w g B8 (X2 ++ (A ++ Z2)) w7) := Lib.hid ⟨HW7.out, HB7.out, by omega⟩
            have hrl1 : (rowsF (l.take (i + 1))).length = i + 1 := by rw [rowsF_len, List.length_take]; omega
            have hrl2 : (rowsF (l.drop i)).length = l.length - i := by rw [rowsF_len, List.length_drop]
            have S1 : Hid (∀ W, twC w g B8 (X2 ++ (A ++ Z2)) W → Sl W 2 (.slice (some a) (i + 1) cap) (rowsF (l.take (i + 1)))) := Lib.hid fun W hW => by
              rw [rowsF_take]
              exact (HS.out.below hW.1).taken (by rw [rowsF_len]; omega) cap
            have S2 : Hid (∀ W, twC w g B8 (X2 ++ (A ++ Z2)) W → Sl W 2 (.slice (some (a.add (i * 2))) (l.length - i) (cap - i)) (rowsF (l.drop i))) := Lib.hid fun W hW => by
              rw [rowsF_drop]
              exact (HS.out.below hW.1).dropped (by rw [rowsF_len]; omega) (cap - i)
            have O1 := Lib.hid (rowsF_one (l := l.take (i + 1)))
            have O2 := Lib.hid (rowsF_one (l := l.drop i))
            have L1 := Lib.hid hrl1
            have L2 := Lib.hid hrl2
            have M1 : Hid (0 < (rowsF (l.take (i + 1))).length) := Lib.hid (by omega)
            have M2 : Hid ((rowsF (l.take (i + 1))).length ≤ maxLen) := Lib.hid (by rw [L1.out]; unfold maxLen; omega)
            have M3 : Hid ((rowsF (l.take (i + 1))).length * 32 ≤ 140737488355328) := Lib.hid (by rw [L1.out]; omega)
            have M4 : Hid ((rowsF (l.take (i + 1))).length + (rowsF (l.drop i)).length ≤ maxLen) := Lib.hid (by rw [L1.out, L2.out]; unfold maxLen; omega)
            have M5 : Hid (((rowsF (l.take (i + 1))).length + (rowsF (l.drop i)).length) * 32 ≤ 140737488355328) := Lib.hid (by rw [L1.out, L2.out]; omega)
            have HAP : Hid (rowsF (l.take (i + 1) ++ l.drop i) = rowsF (l.take (i + 1)) ++ rowsF (l.drop i)) := Lib.hid (rowsF_app _ _)
            have f1 : (i : Int) ≤ (cap : Int) := by omega
            have f2 : (i : Int) + 1 ≤ (cap : Int) := by omega
            have f3 : (0 : Int) ≤ (i : Int) + 1 := by omega
            have f4 : (i : Int) ≤ (l.length : Int) := by omega
            have f5 : i < cap := by omega
            clear hrl1 hrl2 HB7 HW7 HBW HW
            obtain ⟨R1, hR1⟩ : ∃ R, rowsF (l.take (i + 1)) = R := ⟨_, rfl⟩
            obtain ⟨R2, hR2⟩ : ∃ R, rowsF (l.drop i) = R := ⟨_, rfl⟩
            rw [hR1] at S1 O1 L1 M1 M2 M3 M4 M5 HAP
            rw [hR2] at S2 O2 L2 M4 M5 HAP
            clear hR1 hR2
            refine region_turnF 9 mixed (by kernel_rfl) (by decide) (fun z => ((_ :: _ :: _ :: _ :: _ :: _ :: _ :: z 10 :: _ :: _ :: _ :: _ :: _ :: _ :: _ :: _ :: _ :: _ :: _ :: _ :: _ :: _ :: _ :: _ :: _ :: _ :: _ :: _ :: _ :: _ :: _ :: _ :: _ :: _ :: _ :: _ :: _ :: _ :: _ :: _ :: _ :: _ :: _ :: _ :: _ :: _ :: _ :: _ :: _ :: _ :: _ :: _ :: _ :: z 0 :: z 1 :: z 2 :: z 3 :: z 4 :: z 5 :: z 6 :: z 7 :: z 8 :: z 9 :: _ :: _ :: _ :: _ :: _ :: _ :: _ :: _ :: _ :: _ :: _ :: _ :: _ :: _ :: _ :: []) : List Value).toArray) [] (fun i => match i with | 0 => _ | 1 => _ | 2 => _ | 3 => _ | 4 => _ | 5 => _ | 6 => _ | 7 => _ | 8 => _ | 9 => _ | 10 => _ | _ => undef) rfl (fun _ => twC w g B8 (X2 ++ (A ++ Z2))) ⟨HC7.out.1.drew, HC7.out.2.1, HC7.out.2.2⟩ (twS a l.length cap i B8 R1 R2) ?mono8 ?step8 ?one8 ?end8
            case mono8 => exact fun bb k v W W' h _ _ hb => twS_mono bb k v W W' h hb
            case step8 =>
              intro bb z W k o hik ho hC hd hfr
              have hr := Below.refl W.heap.size W
              rcases k with _ | _ | _ | _ | _ | _ | _ | _ | _ | _ | _ | k
              all_goals try (simp only [List.getElem?_cons_zero, List.getElem?_cons_succ, Option.some.injEq] at ho; subst ho)
              · have HC' : Hid (twC w g B8 (X2 ++ (A ++ Z2)) (W.alloc (.cells #[] 40))) := Lib.hid ⟨hC.1.alloc hC.1.size _, hC.2.1.alloc _, by have := hC.2.2; simp; omega⟩
                have HR := Lib.hid (hr.alloc (Nat.le_refl _) (.cells #[] 40))
                clear hC hr
                go_wp2_with fail
                exact ⟨_, rfl, ⟨_, rfl⟩, HC'.out, HR.out⟩
              · go_wp2_with fail
                exact ⟨_, rfl, rfl, hC, hr⟩
              · go_wp2_with fail
                exact ⟨_, rfl, rfl, hC, hr⟩
              · have h0 : z 2 = .int .i64 (i : Int) := hd ⟨2, .data⟩ (by simp) rfl
                rw [h0]
                go_wp2_with fail
                exact ⟨_, by simp [upd, h0], rfl, hC, hr⟩
              · have h0 : z 1 = .slice (some a) l.length cap := hd ⟨1, .data⟩ (by simp) rfl
                have h1 : z 3 = .int .i64 ((i : Int) + 1) := hd ⟨3, .data⟩ (by simp) rfl
                rw [h0, h1]
                go_wp2_with fail
                exact ⟨_, by simp [upd, h0, h1], rfl, hC, hr⟩
              · obtain ⟨D, h0⟩ : ∃ D, z 0 = .slice (some ⟨D, 0, none⟩) 0 0 := hd ⟨0, .data⟩ (by simp) rfl
                have h1 : z 4 = .slice (some a) (i + 1) cap := hd ⟨4, .data⟩ (by simp) rfl
                have HS1 := Lib.hid (S1.out W hC)
                have HC' := Lib.hid hC
                clear hC hr hd hfr
                rw [h0, h1]
                go_wp2_with (refine wpList_append_empty rfl _ _ 22 rfl 40 i0 (.agg #[.string ⟨#[]⟩, .string ⟨#[]⟩]) 2 32 Try.underlying22 hi0 hz0 hz1 hz2 rfl (by decide) D rfl (.slice (some a) (i + 1) cap) R1 rfl HS1.out O1.out M1.out M2.out M3.out ?_; intro v9 w9 ho9 hb9)
                exact ⟨v9, by simp [upd, h0, h1]; rfl, fun _ => ho9.lower HC'.out.2.2, ⟨HC'.out.1.trans (hb9.mono HC'.out.1.size), HC'.out.2.1.below hb9 HC'.out.2.1.lt, by have := hb9.size; have := HC'.out.2.2; omega⟩, hb9⟩
              · go_wp2_with fail
                exact ⟨_, rfl, rfl, hC, hr⟩
              · go_wp2_with fail
                exact ⟨_, rfl, rfl, hC, hr⟩
              · have h0 : z 6 = .slice (some a) l.length cap := hd ⟨6, .data⟩ (by simp) rfl
                have h1 : z 7 = .int .i64 (i : Int) := hd ⟨7, .data⟩ (by simp) rfl
                rw [h0, h1]
                go_wp2_with fail
                exact ⟨_, by simp [upd, h0, h1], rfl, hC, hr⟩
              · exact absurd rfl hik
              · have h0 := hd ⟨9, .data⟩ (by simp) rfl
                obtain ⟨v9, hv9⟩ : ∃ v, z 9 = v := ⟨_, rfl⟩
                rw [hv9] at h0 ⊢
                have H0 := Lib.hid h0
                clear h0 hd
                go_wp2_with fail
                exact ⟨_, by simp [upd, hv9], H0.out, hC, hr⟩
              · simp at ho
            case one8 =>
              intro z W o ho hC hd
              simp only [List.getElem?_cons_zero, List.getElem?_cons_succ, Option.some.injEq] at ho
              subst ho
              have h5 : OwnR W B8 40 2 (z 5) R1 := hd ⟨5, .data⟩ (by simp) rfl rfl
              have h8 : z 8 = .slice (some (a.add (i * 2))) (l.length - i) (cap - i) := hd ⟨8, .data⟩ (by simp) rfl
              obtain ⟨v5, hv5⟩ : ∃ v, z 5 = v := ⟨_, rfl⟩
              rw [hv5] at h5
              have H5 := Lib.hid h5
              have HLO := Lib.hid h5.lt
              have HS2 := Lib.hid (S2.out W hC)
              have HC' := Lib.hid hC
              have HBA : Hid (B8 ≤ W.heap.size) := Lib.hid hC.2.2
              obtain ⟨p5, c5, rfl⟩ := h5.isSlice
              clear h5 hC hd
              rw [hv5, h8]
              go_wp2_with (refine wpList_append_rows rfl _ _ 22 rfl B8 40 i0 (.agg #[.string ⟨#[]⟩, .string ⟨#[]⟩]) 2 32 Try.underlying22 hi0 hz0 hz1 hz2 rfl (by decide) (.slice p5 R1.length c5) R1 rfl H5.out (.slice (some (a.add (i * 2))) (l.length - i) (cap - i)) R2 rfl HS2.out O2.out M4.out M5.out HBA.out (.inr ⟨_, _, _, rfl⟩) ?_; intro v9 w9 ho9 hg9 hv9)
              have hbz : Blk w9 g 40 (X2 ++ (A ++ Z2)) := HC'.out.2.1.grownP hg9 (fun e => by have := (HLO.out g e).1; omega)
              exact ⟨v9, by simp [upd, hv5, h8]; rfl, ⟨rfl, ho9⟩, ⟨HC'.out.1.grown hg9 HC'.out.1.size (fun k e => by have := (HLO.out k e).1; have := HG.out; omega), hbz, by have := hg9.size; have := HBA.out; omega⟩, fun k x hk h => twS_turn k x W w9 h⟩
            case end8 =>
              intro z W hC hSS
              obtain ⟨_, ho⟩ : true = true ∧ OwnR W B8 40 2 (z 10) (R1 ++ R2) := hSS 10 (by decide)
              obtain ⟨v10, hv10⟩ : ∃ v, z 10 = v := ⟨_, rfl⟩
              rw [hv10] at ho ⊢
              have sy := ho.sl
              obtain ⟨py, cy, rfl⟩ := ho.isSlice
              rw [← HAP.out] at sy ⊢
              rw [rowsF_len] at sy ⊢
              have hbx : Blk W g 40 ((rowsF (swapF l i)).flatten ++ rest) := by rw [HSW.out]; exact hC.2.1
              have sx := sl_blkS (cap := cap6) rowsF_two hbx
              rw [rowsF_len, swap_len] at sx
              have sz := fun wx (h : Below w.heap.size w wx) => (HS.out.below h).taken (m := i) (by rw [rowsF_len]; omega) cap
              rw [← rowsF_take] at sz
              have q1 := fun (wx : World) (h : Below W.heap.size W wx) => f_Check (swapF l i) (some ⟨g, 0, none⟩) cap6 110 wx (swap_check HN.out hai) (swap_bys (fun f hf => (HY.out f hf).1) hai) (by rw [swap_len]; omega) (by rw [swap_len]; exact sx.below h)
              have q2 := fun (wx : World) (h : Below W.heap.size W wx) => f_Check (l.take (i + 1) ++ l.drop i) py cy 110 wx (twice_check HN.out (by omega) HM.out.2) (fun f hf => by
                rcases List.mem_append.1 hf with hf | hf
                · exact (HY.out f (List.mem_of_mem_take hf)).1
                · exact (HY.out f (List.mem_of_mem_drop hf)).1) (by rw [List.length_append, List.length_take, List.length_drop]; omega) (sy.below h)
              have hti : (l.take i).length = i := by rw [List.length_take]; omega
              have q3 := fun (wx : World) (h : Below w.heap.size w wx) => f_Check (l.take i) (some a) cap 0 wx (first_check HN.out i) (fun f hf => (HY.out f (List.mem_of_mem_take hf)).1) (by omega) (by rw [hti]; exact sz wx h)
              simp only [swap_len] at q1
              simp only [hti] at q3
              have HW := Lib.hid hC.1
              have Q1 := Lib.hid q1
              have Q2 := Lib.hid q2
              have Q3 := Lib.hid q3
              generalize (l.take (i + 1) ++ l.drop i).length = N at *
              clear q1 q2 q3 sx sy sz hbx hC hSS ho hti
              go_wp2_with fail
              refine (Q1.out W (Below.refl _ _)).mono ?_
              rintro e w11 ⟨rfl, h11⟩
              have H11 := Lib.hid h11
              clear h11
              go_wp2_with fail
              refine (Q2.out w11 H11.out).mono ?_
              rintro e w12 ⟨rfl, h12⟩
              have H12 := Lib.hid (H11.out.trans (h12.mono H11.out.size))
              have H13 := Lib.hid (HW.out.trans (H12.out.mono HW.out.size))
              clear h12
              go_wp2_with fail
              refine (Q3.out w12 H13.out).mono ?_
              rintro e w13 ⟨rfl, h13⟩
              have H14 := Lib.hid (H13.out.trans (h13.mono H13.out.size))
              clear h13
              go_wp2
              go_ret
              exact ⟨rfl, H14.out⟩
    · have g1 : ((n : Int) != 0) = true := by rw [bne_iff_ne]; omega
      have g1' : (n : Int) ≠ 0 := by omega
      clear hn
      go_enter Try.func6, Try.ntmps6
      go_wp2_with (first | (go_at_call 9; (with_reducible refine (HSh.out _).mono ?_); rintro e w1 ⟨rfl, hb1⟩; have hb2 := hb0.trans (hb1.mono hb0.size)) | (go_at_call 8; (with_reducible refine HV.out.mono ?_); rintro e w0 ⟨rfl, hb0⟩) | (go_at_call 12; refine (HC.out _ hb2).mono ?_; rintro e w3 ⟨rfl, hb3⟩))
      go_ret
      exact ⟨rfl, hb2.trans (hb3.mono hb2.size)⟩

set_option maxRecDepth 100000 in
theorem lifted (os : Os) (started : os.Started) (H : Type) (enc : TypeId × Value → H) :
    ReturnsInHanded {} Try.checked os 6 .any (Rows.filesOrderSpec.pre6 enc Try.prog Try.f6 Rows.filesOrderRow.domain false) (Rows.filesOrderSpec.post enc Try.prog Try.f6 false true false false) := by
  refine returnsInHanded_of_change (C := Try.checked) own started (by kernel_rfl) Try.func6
    (ChangeSpec.witness6 (enc := enc) (C := Try.checked) false ⟨#[], #[.slice none 0 0, .int .u8 0], []⟩ 8 (by kernel_rfl) (by kernel_rfl) (by kernel_rfl) (by kernel_rfl)) ?_
  intro W base args ds gs before hval0 hW hcnd _
  have hval : ∀ (j : Nat) t v, Try.f6.params[j]? = some t → args[j]? = some v → Value.okWide Try.prog W .any base t v := hval0
  have hW' := hW
  obtain ⟨p, q, hA0, hV, rfl, hfz, hnd⟩ := hW
  have hA : DataW.TrodAll enc Try.prog W 0 (fun _ => true) true Try.f6.params.toList args.toList ds p := hA0
  rw [Try.params6] at hA hval
  obtain ⟨v0, vs0, d0, ds0, p0, q0, hargs, rfl, rfl, h0, r0⟩ := trodAll_cons hA
  obtain ⟨v1, vs1, d1, ds1, p1, q1, rfl, rfl, rfl, h1, r1⟩ := trodAll_cons r0
  obtain ⟨rfl, rfl, rfl⟩ := trodAll_nil r1
  obtain rfl : args = #[v0, v1] := by cases args; simp_all
  obtain ⟨rfl, rfl⟩ := trodVars_none hV
  have k0 := h0
  have lt0 : ∀ x ∈ p0, x.block < W.heap.size := by obtain ⟨m, hm⟩ := k0; exact DataW.trod_lt m _ _ _ hm
  obtain ⟨a0, m0, c0, rfl⟩ := Go.WideShapes.okWide_slice Try.underlying22 (hval 0 22 v0 rfl rfl)
  obtain ⟨l0, rfl, S0, n0⟩ := open_files h0
  obtain ⟨l1, rfl, rfl, rfl, n1⟩ := open_int Try.underlying5 (hval 1 5 v1 rfl rfl) h1
  clear hA0 hval0
  simp only [List.append_nil] at hW'
  refine (walk l0 a0 c0 l1 n0 n1 W S0).mono fun e W' ⟨he, bel⟩ => ?_
  subst he
  exact ⟨_, rfl, _, _, _, [], _, [], hW', trodAll_mk1 (shut_bool Try.underlying4 _), (trodAll_cons_mk (Below.trod laidOut (by kernel_rfl) (of_decide_eq_true (by kernel_rfl)) k0 bel lt0) (trodAll_cons_mk (shut_int Try.underlying5 n1) trodAll_mk0)), rfl, bel.frame _, fun h => by cases h⟩

theorem over : Rows.filesOrderRow.holds Try.pinned (OpenSpec.ofChange Rows.filesOrderSpec) :=
  OpenClaim.holds_of_wide 6 Try.f6 rfl rfl rfl rfl rfl rfl rfl ⟨rfl, rfl, rfl, rfl, rfl⟩ rfl rfl rfl rfl rfl (by kernel_rfl) Try.func6 (by kernel_rfl)
    (of_decide_eq_true (by kernel_rfl)) (by unfold Func.isWrapper; first | (rw [if_pos (by decide +kernel)]; kernel_rfl) | (rw [if_neg (by decide +kernel)]; exact ⟨rfl, rfl⟩))
    (fun os started H enc _ => lifted os started H enc)

theorem proved : Rows.FilesOrderSaid :=
  over
#print axioms proved
end Go.Proofs.Ytgjbnpghhelpoaa.filesOrder
