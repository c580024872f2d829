/- Walks of digest's Hex, and of the law's digit. -/
import Derived.Test.YtadppbjchacjiaaOwn
import Derived.Test.YtadppbjchacjiaaDShown
import Derived.Deep.RegionHeld3
namespace Go.Proofs.Ytadppbjchacjiaa
open Go.RowKit
set_option linter.unusedVariables false

theorem range_new (w : World) (t : TypeId) (l : List Int) : (w.alloc (.cells (ints .u8 l).toArray t)).rangeAt w.heap.size 0 (ints .u8 l) :=
  Blk.range (x := []) (y := ints .u8 l) (z := []) (by simpa using Blk.new w t (ints .u8 l))
theorem alloc_ge (w : World) (o : Obj) {B : Nat} (h : B ≤ w.heap.size) : B ≤ (w.alloc o).heap.size := by
  simp; omega
theorem step_append_bytes {P : Program} {ops : Array Oper} {o : Oper} {a : Act} {w : World} {K : Act → World → Prop} {Q : Exit → Act → World → Prop} {E : Prop} (hgd : o.guard = none) (s x : Operand) (t : TypeId)
    (ho : o.op = .call { callee := .builtin .append, args := #[s, x], argTypes := #[t, t] })
    (base : Nat) (e : TypeId) (ht : P.underlying t = some (.slice e)) (hinfo : (P.info? e).map (fun i => (i.zero, i.size, i.bytes)) = some (some (.int .u8 0), 1, 1))
    (v : Value) (l : List Int) (hs : a.eval s = v) (hown : OwnB w base e v l)
    (b m c : Nat) (news : List Int) (hx : a.eval x = .slice (some ⟨b, 0, none⟩) m c) (hl : m = news.length) (hnews : w.rangeAt b 0 (ints .u8 news))
    (hbig : l.length + news.length ≤ 140737488355328) (hbase : base ≤ w.heap.size)
    (h : ∀ v' w', OwnB w' base e v' (l ++ news) → w.grownBy w' v.ownBlock → K (a.put o.dst v') w') : if Region.wanted o (yielded ops a.tmps) = true then Oper.wp P o a w K Q else E := by
  obtain ⟨i0, hi0, hz0, hz1, hz2⟩ := info_parts hinfo
  subst hl
  rw [if_pos (by simp [Region.wanted, hgd])]
  refine wp_append_own w s x t ho base e i0 (.int .u8 0) 1 1 ht hi0 hz0 hz1 hz2 rfl (by decide) v l.length (ints .u8 l) hs hown ⟨b, 0, none⟩ news.length c (ints .u8 news) hx (by simp [ints_length])
    (fun j u hj => by rw [Addr.add_mid]; exact hnews j u hj) (fun u hu => ?_) (by unfold maxLen; omega) (by omega) hbase (fun v' w' h1 h2 _ => h v' w' ?_ h2)
  · simp only [ints, List.mem_map] at hu
    obtain ⟨n, _, rfl⟩ := hu
    rfl
  · unfold OwnB
    rw [List.length_append, ints_app]; exact h1
def hexDigit (d : Int) : Int := if d < 10 then 48 + d else 87 + d
def hexT (h : List Int) : Nat → List Int
  | 0 => []
  | k + 1 => hexT h k ++ [hexDigit (h.getD k 0 / 16), hexDigit (h.getD k 0 % 16)]
theorem hexT_len (h : List Int) : ∀ k, (hexT h k).length = 2 * k
  | 0 => rfl
  | k + 1 => by simp [hexT, hexT_len h k]; omega

def digs : ByteArray := ⟨#[48, 49, 50, 51, 52, 53, 54, 55, 56, 57, 97, 98, 99, 100, 101, 102]⟩
theorem idx_digs (i : Int) (h0 : 0 ≤ i) (h1 : i < 16) (w : World) : (Instr.index 9 (.string ⟨#[48, 49, 50, 51, 52, 53, 54, 55, 56, 57, 97, 98, 99, 100, 101, 102]⟩) (.int .u8 i)).run Try.prog w = .ok (.int .u8 (hexDigit i)) w := by
  rcases (show i = 0 ∨ i = 1 ∨ i = 2 ∨ i = 3 ∨ i = 4 ∨ i = 5 ∨ i = 6 ∨ i = 7 ∨ i = 8 ∨ i = 9 ∨ i = 10 ∨ i = 11 ∨ i = 12 ∨ i = 13 ∨ i = 14 ∨ i = 15 by omega) with rfl | rfl | rfl | rfl | rfl | rfl | rfl | rfl | rfl | rfl | rfl | rfl | rfl | rfl | rfl | rfl <;> kernel_rfl
theorem make_hex (w : World) : (Instr.makeSlice 36 (.int .i64 0) (.int .i64 64)).run Try.prog w = .ok (.slice (some ⟨w.heap.size, 0, none⟩) 0 64) (w.alloc (.cells (ints .u8 (zer 64)).toArray 5)) := by kernel_rfl

set_option maxHeartbeats 1000000 in
set_option maxRecDepth 100000 in
theorem d_Hex (h : List Int) (w : World) (hh : h.length = 32) (ho : Octets h) :
    Calls Try.prog 15 #[.agg (ints .u8 h).toArray] w fun e w' => e = .returned (.string (bs (hexT h 32))) ∧ Below w.heap.size w w' := by
  have HH := Lib.hid hh
  have HO := Lib.hid ho
  clear hh ho
  have hmk := make_hex
  go_enter Try.func15, Try.ntmps15
  go_wp2_with (first | (refine wpList_load_blk rfl 23 _ rfl _ rfl ((Blk.new w 23 (ints .u8 h)).alloc _) Try.underlying23 rfl (by rw [size_hash, ints_length, HH.out]) ?_))
  have hk : OwnB ((w.alloc (.cells (ints .u8 h).toArray 23)).alloc (.cells (ints .u8 (zer 64)).toArray 5)) w.heap.size 5 (.slice (some ⟨w.heap.size + 1, 0, none⟩) 0 64) [] :=
    OwnB.ofBlk (l := []) (zer 64) (Blk.new2 w _ 5 (ints .u8 (zer 64)) rfl) (by omega) rfl (by unfold maxLen; omega)
  have hb : Below w.heap.size w ((w.alloc (.cells (ints .u8 h).toArray 23)).alloc (.cells (ints .u8 (zer 64)).toArray 5)) := ((Below.refl _ _).alloc (Nat.le_refl _) _).alloc (by simp) _
  generalize World.alloc (World.alloc w _) _ = w2 at *
  go_loopw [3, 5, 8] (fun v _ i wr => ∃ k : Nat, k ≤ 32 ∧ i = .int .i64 k ∧ OwnB wr w.heap.size 5 v (hexT h k) ∧ Below w.heap.size w wr) (fun _ _ i _ => 32 - (intOf i).toNat)
  case atStart => exact ⟨0, by omega, rfl, hk, hb⟩
  case round =>
    obtain ⟨k, hk32, rfl, hown, hbel⟩ := hrel
    clear hk hb
    by_cases hlt : k < 32
    · have hix := fun w => run_index_ints (P := Try.prog) 23 5 32 .u8 .i64 h k Try.underlying23 ⟨_, Try.underlying5, rfl⟩ size_u8 HH.out hlt w
      have hoct : 0 ≤ h.getD k 0 ∧ h.getD k 0 < 256 := by
        refine HO.out _ ?_
        rw [List.getD_eq_getElem?_getD, List.getElem?_eq_getElem (by rw [HH.out]; omega)]
        exact List.getElem_mem _
      have hstep : hexT h (k + 1) = hexT h k ++ [hexDigit (h.getD k 0 / 16), hexDigit (h.getD k 0 % 16)] := rfl
      have hlen := hexT_len h k
      generalize hexT h k = l at *
      generalize h.getD k 0 = x at *
      obtain ⟨x0, x1⟩ := hoct
      have h15 : bits .and .u8 x 15 = x % 16 := u8_and15 x x0 x1
      have hd1 := idx_digs (x / 16) (by omega) (by omega)
      have hd2 := idx_digs (x % 16) (by omega) (by omega)
      have Hs := Lib.hid hstep
      have Hl := Lib.hid hlen
      have hk64 : (k : Int) < 32 := by omega
      clear hstep hlen
      generalize hexDigit (x / 16) = c1 at *
      generalize hexDigit (x % 16) = c2 at *
      go_wp2
      have hsz := hbel.size
      have hcap : l.length + [c1, c2].length ≤ 140737488355328 := by rw [Hl.out]; simp; omega
      go_region_held3 (fun _ => True) (trivial) ((refine step_append_bytes (by rfl) _ _ 36 (by rfl) w.heap.size 5 Try.underlying36 info_u8 _ l (by rfl) ((hown.alloc _).drew) wr.heap.size 2 2 [c1, c2] (by rfl) (by rfl) (range_new wr 5 [c1, c2]) hcap (alloc_ge wr _ hsz) ?_; intro v' w4 hown4 hgrow4))
      all_goals
        have hb4 : Below w.heap.size w w4 := Below.grown ((hbel.alloc hsz _).drew) hgrow4 (alloc_ge wr _ hsz) (fun k hk => (hown.lt k hk).1)
        go_wp2
        exact ⟨⟨k + 1, by omega, by go_num, by rw [Hs.out]; exact hown4, hb4⟩, by simp [intOf]; omega⟩
    · obtain rfl : k = 32 := by omega
      go_wp2_with (first | (refine wpList_string_own rfl 36 9 5 _ rfl w.heap.size _ (hexT h 32) rfl Try.underlying36 Try.underlying5 Try.underlying9 hown ?_))
      go_ret
      exact ⟨rfl, hbel⟩

set_option maxHeartbeats 1000000 in
theorem l_digit (d : Int) (w : World) (h0 : 0 ≤ d) (h1 : d < 16) :
    Calls Try.prog 18 #[.int .u8 (hexDigit d)] w fun e w' => e = .returned (.int .i64 d) ∧ w' = w := by
  by_cases hd : d < 10
  · rw [show hexDigit d = 48 + d from if_pos hd]
    have g1 : decide ((48 : Int) ≤ 48 + d) = true := by simp; omega
    have g2 : decide (48 + d ≤ (57 : Int)) = true := by simp; omega
    go_enter Try.func18, Try.ntmps18
    go_wp2
    go_ret
    exact ⟨ret_num (by omega), rfl⟩
  · rw [show hexDigit d = 87 + d from if_neg hd]
    have g1 : decide ((48 : Int) ≤ 87 + d) = true := by simp; omega
    have g2 : decide (87 + d ≤ (57 : Int)) = false := by simp; omega
    have g3 : decide ((97 : Int) ≤ 87 + d) = true := by simp; omega
    have g4 : decide (87 + d ≤ (102 : Int)) = true := by simp; omega
    go_enter Try.func18, Try.ntmps18
    go_wp2
    go_ret
    exact ⟨ret_num (by omega), rfl⟩
theorem hexT_at (h : List Int) (k n : Nat) (hk : k < n) : (hexT h n).getD (2 * k) 0 = hexDigit (h.getD k 0 / 16) ∧ (hexT h n).getD (2 * k + 1) 0 = hexDigit (h.getD k 0 % 16) := by
  induction n with
  | zero => omega
  | succ n ih =>
    have hl := hexT_len h n
    by_cases he : k = n
    · subst he
      simp only [hexT, List.getD_eq_getElem?_getD]
      rw [List.getElem?_append_right (by omega), List.getElem?_append_right (by omega)]
      simp [hl]
    · have hi := ih (by omega)
      simp only [hexT, List.getD_eq_getElem?_getD] at hi ⊢
      rw [List.getElem?_append_left (by omega), List.getElem?_append_left (by omega)]
      exact hi
theorem hexDigit_range (d : Int) (h0 : 0 ≤ d) (h1 : d < 16) : 48 ≤ hexDigit d ∧ hexDigit d ≤ 102 := by
  unfold hexDigit; split <;> omega
theorem hexT_octets (h : List Int) (ho : Octets h) : ∀ k, Octets (hexT h k)
  | 0 => by intro n hn; cases hn
  | k + 1 => by
    intro n hn
    rcases List.mem_append.1 hn with hn | hn
    · exact hexT_octets h ho k n hn
    · have hx : 0 ≤ h.getD k 0 ∧ h.getD k 0 < 256 := by
        rw [List.getD_eq_getElem?_getD]
        by_cases hk : k < h.length
        · rw [List.getElem?_eq_getElem hk]; exact ho _ (List.getElem_mem _)
        · rw [List.getElem?_eq_none (by omega)]; simp
      generalize h.getD k 0 = x at *
      have h1 := hexDigit_range (x / 16) (by omega) (by omega)
      have h2 := hexDigit_range (x % 16) (by omega) (by omega)
      simp only [List.mem_cons, List.not_mem_nil, or_false] at hn
      rcases hn with rfl | rfl <;> omega
end Go.Proofs.Ytadppbjchacjiaa
