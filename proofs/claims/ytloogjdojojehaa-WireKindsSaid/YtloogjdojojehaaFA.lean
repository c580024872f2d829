/- Files in a list: their order, what may be, their data as one, in pieces, and back; plain facts. -/
import Derived.Test.YtloogjdojojehaaG1
import GoSem.Op.String
import Derived.Test.YtloogjdojojehaaG4
namespace Go.Proofs.Ytloogjdojojehaa
set_option linter.unusedVariables false

/-! ### the order of texts -/
def ltB : List Nat → List Nat → Bool
  | _, [] => false
  | [], _ :: _ => true
  | a :: x, b :: y => decide (a < b) || (decide (a = b) && ltB x y)
theorem ltB_nil (x : List Nat) : ltB x [] = false := by cases x <;> rfl
theorem ltB_same : ∀ x : List Nat, ltB x x = false
  | [] => rfl
  | a :: x => by simp [ltB, ltB_same x]
theorem ltB_asym : ∀ {x y : List Nat}, ltB x y = true → ltB y x = false
  | _, [], h => by rw [ltB_nil] at h; cases h
  | [], _ :: _, _ => ltB_nil _
  | a :: x, b :: y, h => by
    simp only [ltB, Bool.or_eq_true, Bool.and_eq_true, decide_eq_true_eq] at h
    rcases h with h | ⟨h1, h2⟩
    · have n1 : ¬ b < a := by omega
      have n2 : ¬ b = a := by omega
      simp [ltB, n1, n2]
    · subst h1
      simp [ltB, ltB_asym h2]
theorem ltB_trans : ∀ {x y z : List Nat}, ltB x y = true → ltB y z = true → ltB x z = true
  | _, [], _, h, _ => by rw [ltB_nil] at h; cases h
  | _, _ :: _, [], _, h => by rw [ltB_nil] at h; cases h
  | [], _ :: _, _ :: _, _, _ => rfl
  | a :: x, b :: y, c :: z, h, k => by
    simp only [ltB, Bool.or_eq_true, Bool.and_eq_true, decide_eq_true_eq] at h k ⊢
    rcases h with h | ⟨h1, h2⟩
    · rcases k with k | ⟨k1, _⟩
      · exact .inl (by omega)
      · exact .inl (by omega)
    · rcases k with k | ⟨k1, k2⟩
      · exact .inl (by omega)
      · exact .inr ⟨by omega, ltB_trans h2 k2⟩
theorem less_map : ∀ (x y : List UInt8), Op.bytesLess x y = ltB (x.map (·.toNat)) (y.map (·.toNat))
  | _, [] => by rw [List.map_nil, ltB_nil]; cases ‹List UInt8› <;> rfl
  | [], _ :: _ => rfl
  | a :: x, b :: y => by
    have h := less_map x y
    simp only [Op.bytesLess, List.map_cons, ltB]
    rw [h]
    congr 1
    have e : (a == b) = decide (a.toNat = b.toNat) := by
      by_cases h : a = b
      · subst h; simp
      · have h2 : ¬ a.toNat = b.toNat := fun h2 => h (UInt8.toNat_inj.1 h2)
        simp [h, h2]
    rw [e]
/-- what the walk asks of two texts' order -/
theorem less_tx (s t : ByteArray) : Op.bytesLess s.toList t.toList = ltB (sl s) (sl t) := by
  rw [less_map, Go.ByteArray.toList_eq, Go.ByteArray.toList_eq]
  rfl
/-! ### files: a name and data -/
def mayF (f : List Nat × List Nat) : Bool := decide (0 < f.1.length) && decide (f.1.length ≤ 20) && decide (f.2.length ≤ 300)
theorem mayF_iff (f : List Nat × List Nat) : mayF f = true ↔ 0 < f.1.length ∧ f.1.length ≤ 20 ∧ f.2.length ≤ 300 := by
  unfold mayF
  simp only [Bool.and_eq_true, decide_eq_true_eq, and_assoc]
/-- do the names rise? -/
def risesF : List (List Nat × List Nat) → Bool
  | [] => true
  | f :: l => (match l with | [] => true | g :: _ => ltB f.1 g.1) && risesF l
def noF : List Nat × List Nat := ([], [])
theorem rises_at : ∀ {l : List (List Nat × List Nat)}, risesF l = true → ∀ i, i + 1 < l.length → ltB (l.getD i noF).1 (l.getD (i + 1) noF).1 = true
  | [], _, i, h => by simp at h
  | [f], _, i, h => by simp at h
  | f :: g :: l, h, 0, _ => by
    simp only [risesF, Bool.and_eq_true] at h
    exact h.1
  | f :: g :: l, h, i + 1, hi => by
    simp only [risesF, Bool.and_eq_true] at h
    have := rises_at (l := g :: l) (by simp only [risesF, Bool.and_eq_true]; exact h.2) i (by simpa using hi)
    simpa using this
theorem rises_of : ∀ {l : List (List Nat × List Nat)}, (∀ i, i + 1 < l.length → ltB (l.getD i noF).1 (l.getD (i + 1) noF).1 = true) → risesF l = true
  | [], _ => rfl
  | [f], _ => rfl
  | f :: g :: l, h => by
    have h0 := h 0 (by simp)
    have h1 := rises_of (l := g :: l) fun i hi => by
      have := h (i + 1) (by simpa using hi)
      simpa using this
    rw [risesF, h1, Bool.and_true]
    simpa using h0
theorem rises_not {l : List (List Nat × List Nat)} {i : Nat} (hi : i + 1 < l.length) (h : ltB (l.getD i noF).1 (l.getD (i + 1) noF).1 = false) : risesF l = false := by
  cases hr : risesF l with
  | false => rfl
  | true => rw [rises_at hr i hi] at h; cases h
/-- what Check tells: 0, 110 or 111 -/
def checkF (l : List (List Nat × List Nat)) : Nat := if decide (l.length ≤ 12) && l.all mayF then (if risesF l then 0 else 110) else 111
theorem checkF_ok {l : List (List Nat × List Nat)} : checkF l = 0 ↔ l.length ≤ 12 ∧ (∀ f ∈ l, mayF f = true) ∧ risesF l = true := by
  unfold checkF
  by_cases h : (decide (l.length ≤ 12) && l.all mayF) = true
  · rw [if_pos h]
    simp only [Bool.and_eq_true, decide_eq_true_eq, List.all_eq_true] at h
    by_cases hr : risesF l = true
    · rw [if_pos hr]; simp [h.1, hr]; exact fun a b => h.2 (a, b)
    · rw [if_neg hr]; simp [hr]
  · rw [if_neg h]
    simp only [Bool.and_eq_true, decide_eq_true_eq, List.all_eq_true] at h
    constructor
    · intro h1; cases h1
    · intro h1; exact absurd ⟨h1.1, h1.2.1⟩ h
theorem checkF_order {l : List (List Nat × List Nat)} (h1 : l.length ≤ 12) (h2 : ∀ f ∈ l, mayF f = true) (h3 : risesF l = false) : checkF l = 110 := by
  unfold checkF
  rw [if_pos (by simp only [Bool.and_eq_true, decide_eq_true_eq, List.all_eq_true]; exact ⟨h1, h2⟩), if_neg (by rw [h3]; decide)]
theorem checkF_size {l : List (List Nat × List Nat)} (h : 12 < l.length ∨ ∃ f ∈ l, mayF f = false) : checkF l = 111 := by
  unfold checkF
  refine if_neg fun hc => ?_
  simp only [Bool.and_eq_true, decide_eq_true_eq, List.all_eq_true] at hc
  rcases h with h | ⟨f, hf, hm⟩
  · omega
  · rw [hc.2 f hf] at hm; cases hm
/-- two the other way round -/
def swapF (l : List (List Nat × List Nat)) (i : Nat) : List (List Nat × List Nat) := (l.set i (l.getD (i + 1) noF)).set (i + 1) (l.getD i noF)
theorem swap_check {l : List (List Nat × List Nat)} (h : checkF l = 0) {i : Nat} (hi : i + 1 < l.length) : checkF (swapF l i) = 110 := by
  obtain ⟨h1, h2, h3⟩ := checkF_ok.1 h
  have hm : ∀ k, k < l.length → l.getD k noF ∈ l := fun k hk => by
    rw [List.getD_eq_getElem?_getD, List.getElem?_eq_getElem hk]
    exact List.getElem_mem _
  refine checkF_order (by simp [swapF]; omega) (fun f hf => ?_) (rises_not (i := i) (by simpa [swapF] using hi) ?_)
  · unfold swapF at hf
    rcases List.mem_or_eq_of_mem_set hf with hf | rfl
    · rcases List.mem_or_eq_of_mem_set hf with hf | rfl
      · exact h2 f hf
      · exact h2 _ (hm _ (by omega))
    · exact h2 _ (hm _ (by omega))
  · have e1 : (swapF l i).getD i noF = l.getD (i + 1) noF := by
      unfold swapF
      rw [List.getD_eq_getElem?_getD, List.getElem?_set_ne (by omega), List.getElem?_set_self (by omega)]
      rfl
    have e2 : (swapF l i).getD (i + 1) noF = l.getD i noF := by
      unfold swapF
      rw [List.getD_eq_getElem?_getD, List.getElem?_set_self (by rw [List.length_set]; omega)]
      rfl
    rw [e1, e2]
    exact ltB_asym (rises_at h3 i hi)
/-- one twice -/
theorem twice_check {l : List (List Nat × List Nat)} (h : checkF l = 0) {i : Nat} (hi : i < l.length) (hl : l.length ≤ 11) : checkF (l.take (i + 1) ++ l.drop i) = 110 := by
  obtain ⟨h1, h2, h3⟩ := checkF_ok.1 h
  have hlt : (l.take (i + 1)).length = i + 1 := by rw [List.length_take]; omega
  refine checkF_order (by rw [List.length_append, hlt, List.length_drop]; omega) (fun f hf => ?_) (rises_not (i := i) (by rw [List.length_append, hlt, List.length_drop]; omega) ?_)
  · rcases List.mem_append.1 hf with hf | hf
    · exact h2 f (List.mem_of_mem_take hf)
    · exact h2 f (List.mem_of_mem_drop hf)
  · have e1 : (l.take (i + 1) ++ l.drop i).getD i noF = l.getD i noF := by
      rw [List.getD_eq_getElem?_getD, List.getElem?_append_left (by omega), List.getElem?_take_of_lt (by omega)]
      rfl
    have e2 : (l.take (i + 1) ++ l.drop i).getD (i + 1) noF = l.getD i noF := by
      rw [List.getD_eq_getElem?_getD, List.getElem?_append_right (by omega), hlt, List.getElem?_drop]
      simp
    rw [e1, e2]
    exact ltB_same _
theorem first_check {l : List (List Nat × List Nat)} (h : checkF l = 0) (i : Nat) : checkF (l.take i) = 0 := by
  obtain ⟨h1, h2, h3⟩ := checkF_ok.1 h
  refine checkF_ok.2 ⟨by rw [List.length_take]; omega, fun f hf => h2 f (List.mem_of_mem_take hf), rises_of fun k hk => ?_⟩
  rw [List.length_take] at hk
  have e : ∀ m, m < i → (l.take i).getD m noF = l.getD m noF := fun m hm => by
    rw [List.getD_eq_getElem?_getD, List.getElem?_take_of_lt hm]
    rfl
  rw [e k (by omega), e (k + 1) (by omega)]
  exact rises_at h3 k (by omega)
/-! ### one behind the other, and in pieces -/
def solidF (l : List (List Nat × List Nat)) : List Nat := l.flatMap (·.2)
theorem solid_len {l : List (List Nat × List Nat)} {n : Nat} (h : ∀ f ∈ l, f.2.length ≤ n) : (solidF l).length ≤ n * l.length := by
  induction l with
  | nil => simp [solidF]
  | cons f l ih =>
    have h1 := h f (by simp)
    have h2 := ih fun y hy => h y (by simp [hy])
    unfold solidF at h2 ⊢
    rw [List.flatMap_cons, List.length_append, List.length_cons, Nat.mul_add]
    omega
/-- how many pieces -/
def pcs (s : List Nat) : Nat := (s.length + 255) / 256
def pieceF (s : List Nat) (i : Nat) : List Nat := (s.drop (256 * i)).take 256
def cutF (s : List Nat) : List (List Nat) := (List.range (pcs s)).map (pieceF s)
theorem cut_len (s : List Nat) : (cutF s).length = (s.length + 255) / 256 := by simp [cutF, pcs]
theorem cut_at (s : List Nat) {i : Nat} (h : i < pcs s) : (cutF s)[i]? = some (pieceF s i) := by simp [cutF, h]
theorem piece_len (s : List Nat) (i : Nat) : (pieceF s i).length = min 256 (s.length - 256 * i) := by unfold pieceF; rw [List.length_take, List.length_drop]
theorem piece_some (s : List Nat) {i : Nat} (h : i < pcs s) : 0 < (pieceF s i).length := by rw [piece_len]; unfold pcs at h; omega
theorem piece_full (s : List Nat) {i : Nat} (h : i + 1 < pcs s) : (pieceF s i).length = 256 := by rw [piece_len]; unfold pcs at h; omega
/-- the first pieces are the text's beginning -/
theorem cut_first (s : List Nat) : ∀ k, ((List.range k).map (pieceF s)).flatten = s.take (256 * k)
  | 0 => by simp
  | k + 1 => by
    rw [List.range_succ, List.map_append, List.flatten_append, cut_first s k, List.map_singleton, List.flatten_singleton, show 256 * (k + 1) = 256 * k + 256 by omega, List.take_add]
    rfl
theorem cut_join (s : List Nat) : (cutF s).flatten = s := by
  unfold cutF
  rw [cut_first, List.take_of_length_le]
  unfold pcs
  omega
/-! ### parted -/
def partF : List (List Nat) → List Int → List Nat → Option (List (List Nat × List Nat))
  | [], [], s => if s.length = 0 then some [] else none
  | n :: ns, z :: zs, s => if 0 ≤ z ∧ z ≤ (s.length : Int) then (partF ns zs (s.drop z.toNat)).map ((n, s.take z.toNat) :: ·) else none
  | _, _, _ => none
/-- what Part tells: files and an error -/
def partR (ns : List (List Nat)) (zs : List Int) (s : List Nat) : List (List Nat × List Nat) × Nat := match partF ns zs s with
  | none => ([], 1)
  | some l => if checkF l = 0 then (l, 0) else ([], checkF l)
def namesF (l : List (List Nat × List Nat)) : List (List Nat) := l.map (·.1)
def sizesF (l : List (List Nat × List Nat)) : List Int := l.map fun f => (f.2.length : Int)
theorem part_back : ∀ l : List (List Nat × List Nat), partF (namesF l) (sizesF l) (solidF l) = some l
  | [] => rfl
  | f :: l => by
    have ih := part_back l
    unfold namesF sizesF solidF at ih ⊢
    rw [List.map_cons, List.map_cons, List.flatMap_cons, partF, if_pos ⟨by omega, by rw [List.length_append]; omega⟩, Int.toNat_natCast]
    rw [List.drop_left, List.take_left, ih]
    rfl
theorem partR_back (l : List (List Nat × List Nat)) : partR (namesF l) (sizesF l) (solidF l) = if checkF l = 0 then (l, 0) else ([], checkF l) := by
  unfold partR
  rw [part_back]
theorem part_lens : ∀ {ns : List (List Nat)} {zs : List Int} {s : List Nat} {l : List (List Nat × List Nat)}, partF ns zs s = some l → ns.length = zs.length ∧ l.length = ns.length
  | [], [], s, l, h => by
    unfold partF at h
    split at h
    · cases h; exact ⟨rfl, rfl⟩
    · cases h
  | n :: ns, z :: zs, s, l, h => by
    rw [partF] at h
    split at h
    · cases hp : partF ns zs (s.drop z.toNat) with
      | none => rw [hp] at h; cases h
      | some m =>
        rw [hp] at h
        simp only [Option.map_some, Option.some.injEq] at h
        subst h
        have := part_lens hp
        exact ⟨by simp [this.1], by simp [this.2]⟩
    · cases h
  | [], z :: zs, s, l, h => by simp [partF] at h
  | n :: ns, [], s, l, h => by simp [partF] at h
end Go.Proofs.Ytloogjdojojehaa
namespace Go.Proofs.Ytloogjdojojehaa
open Go.RowKit Go.ChangeShapes Go.WideShapes
set_option linter.unusedVariables false

/-- a file's cells -/
def rowF (f : List Nat × List Nat) : List Value := [.string (tx f.1), .string (tx f.2)]
def rowsF (l : List (List Nat × List Nat)) : List (List Value) := l.map rowF
theorem rowsF_len (l : List (List Nat × List Nat)) : (rowsF l).length = l.length := by simp [rowsF]
theorem rowsF_at {l : List (List Nat × List Nat)} {j : Nat} (h : j < l.length) : (rowsF l)[j]? = some (rowF (l.getD j noF)) := by simp [rowsF, h]
theorem rowsF_app (a b : List (List Nat × List Nat)) : rowsF (a ++ b) = rowsF a ++ rowsF b := by simp [rowsF]
theorem rowsF_snoc (l : List (List Nat × List Nat)) (f : List Nat × List Nat) : rowsF (l ++ [f]) = rowsF l ++ [rowF f] := by simp [rowsF]
theorem rowsF_take (l : List (List Nat × List Nat)) (n : Nat) : rowsF (l.take n) = (rowsF l).take n := by unfold rowsF; rw [List.map_take]
theorem rowsF_drop (l : List (List Nat × List Nat)) (n : Nat) : rowsF (l.drop n) = (rowsF l).drop n := by unfold rowsF; rw [List.map_drop]
theorem rowF_one (f : List Nat × List Nat) : (rowF f).toArray.all (·.oneCell') = true := by simp [rowF, Value.oneCell']
theorem SlF.name {w : World} {p : Option Addr} {n cap : Nat} {l : List (List Nat × List Nat)} (h : Sl w 2 (.slice p n cap) (rowsF l)) {j : Nat} (hj : j < l.length) :
    ∃ a : Addr, p = some a ∧ w.cell? ((a.add (j * 2)).add 0) = some (.string (tx (l.getD j noF).1)) ∧ w.cell? ((a.add (j * 2)).add 1) = some (.string (tx (l.getD j noF).2)) := by
  obtain ⟨a, e, hc⟩ := h.row (rowsF_at hj)
  exact ⟨a, e, hc 0 _ rfl, hc 1 _ rfl⟩
/-- rows that lie behind the first m -/
theorem Sl.dropped {w : World} {k : Nat} {a : Addr} {n cap : Nat} {rows : List (List Value)} (h : Sl w k (.slice (some a) n cap) rows) {m : Nat} (hm : m ≤ rows.length) (cap' : Nat) : Sl w k (.slice (some (a.add (m * k))) (n - m) cap') (rows.drop m) := by
  obtain ⟨h1, p', c', e, h3⟩ := h
  cases e
  refine ⟨fun r hr => h1 r (List.mem_of_mem_drop hr), some (a.add (m * k)), cap', by rw [List.length_drop], fun i r hr => ?_⟩
  rw [List.getElem?_drop] at hr
  obtain ⟨a', ea, hlt, hc⟩ := h3 (m + i) r hr
  cases ea
  refine ⟨_, rfl, by rw [add_block]; exact hlt, fun j x hx => ?_⟩
  rw [Deep.add_add, show m * k + (i * k + j) = (m + i) * k + j by rw [Nat.add_mul]; omega]
  exact hc j x hx
section
variable {H : Type} {enc : TypeId × Value → H} {P : Program} {w : World} {base : Nat} {spare : Nat → Bool} {held : Bool}
/-- a slice of pairs of texts, as an argument -/
theorem open_str_pairs {t e : TypeId} {f0 f1 : Field} {p0 : Option Addr} {len cap : Nat} {d : DataW H} {p : List MemPlace} (ht : P.underlying t = some (.slice e)) (he : P.underlying e = some (.struct #[f0, f1]))
    (ce : P.cellsOf e = 2) (o0 : f0.offset = 0) (o1 : f1.offset = 1) (c0 : P.cellsOf f0.type = 1) (c1 : P.cellsOf f1.type = 1) (u0 : P.underlying f0.type = some .string) (u1 : P.underlying f1.type = some .string)
    (h : DataW.Trod enc P w base spare held t (.slice p0 len cap) d p) :
    ∃ l : List (List Nat × List Nat), l.length = len ∧ Sl w 2 (.slice p0 len cap) (rowsF l) ∧ (∀ f ∈ l, Bys f.1 ∧ Bys f.2) ∧ (Value.slice p0 len cap = .slice none 0 0 ∨ ∃ ad n c, Value.slice p0 len cap = .slice (some ad) n c) ∧ len ≤ cap ∧ cap ≤ maxLen := by
  obtain ⟨m, hm⟩ := h
  have hcells : (Value.slice p0 len cap).cells.toList = [.slice p0 len cap] := rfl
  rw [hcells] at hm
  rcases Deep.open_slice_pairs ht he ce o0 o1 c0 c1 hm with ⟨hcs, _⟩ | ⟨a, len', cap', m', n, V0, V1, D0, D1, P0, P1, hcs, hb, hl, hcap, hmm, hx, hall⟩
  · cases hcs
    exact ⟨[], rfl, Sl.none 2, fun q h => (by cases h), .inl rfl, Nat.le_refl _, by simp [maxLen]⟩
  · cases hcs
    have hlm : len ≤ m' := by rw [hmm]; split <;> omega
    have each : ∀ i, i < len → ∃ q : ByteArray × ByteArray, V0 i = .string q.1 ∧ V1 i = .string q.2 := fun i hi => by
      obtain ⟨_, _, g0, g1⟩ := hall i (by omega)
      obtain ⟨x, e0, _, _⟩ := DataW.trod_string u0 g0
      obtain ⟨y, e1, _, _⟩ := DataW.trod_string u1 g1
      exact ⟨(x, y), by simpa using e0, by simpa using e1⟩
    obtain ⟨q, hq⟩ := Deep.choose_lt each
    refine ⟨(List.range len).map fun i => (sl (q i).1, sl (q i).2), by simp, ?_, fun f hf => ?_, .inr ⟨_, _, _, rfl⟩, by omega, by omega⟩
    · unfold rowsF
      rw [List.map_map]
      refine rows_of a len cap _ (fun i hi => rfl) (fun h0 => ?_) (fun i hi j x hj => ?_)
      · have := cell_lt (hall 0 (by omega)).1
        rwa [add_block] at this
      · obtain ⟨g0, g1, _, _⟩ := hall i (by omega)
        obtain ⟨e0, e1⟩ := hq i hi
        match j, hj with
        | 0, hj =>
          have hj' : Value.string (tx (sl (q i).1)) = x := by simpa [rowF] using hj
          rw [← hj', tx_sl, ← e0]; exact g0
        | 1, hj =>
          have hj' : Value.string (tx (sl (q i).2)) = x := by simpa [rowF] using hj
          rw [← hj', tx_sl, ← e1]; exact g1
        | _ + 2, hj => simp [rowF] at hj
    · obtain ⟨i, _, rfl⟩ := List.mem_map.1 hf
      exact ⟨sl_bys _, sl_bys _⟩
end
theorem open_files {H : Type} {enc : TypeId × Value → H} {w : World} {base : Nat} {spare : Nat → Bool} {held : Bool} {p0 : Option Addr} {len cap : Nat} {d : DataW H} {p : List MemPlace} (h : DataW.Trod enc Try.prog w base spare held 139 (.slice p0 len cap) d p) : ∃ l : List (List Nat × List Nat), l.length = len ∧ Sl w 2 (.slice p0 len cap) (rowsF l) ∧ (∀ f ∈ l, Bys f.1 ∧ Bys f.2) ∧ (Value.slice p0 len cap = .slice none 0 0 ∨ ∃ ad n c, Value.slice p0 len cap = .slice (some ad) n c) ∧ len ≤ cap ∧ cap ≤ maxLen := open_str_pairs Try.underlying139 Try.underlying141 (by kernel_rfl) rfl rfl (by kernel_rfl) (by kernel_rfl) Try.underlying9 Try.underlying9 h
end Go.Proofs.Ytloogjdojojehaa
namespace Go.Proofs.Ytloogjdojojehaa
open Go.RowKit
set_option linter.unusedVariables false

theorem tx_none {t : ByteArray} (h : t.size = 0) : t.toList.isEmpty = true := by
  rw [Go.ByteArray.toList_eq]
  have : t.data.toList = [] := List.eq_nil_of_length_eq_zero (by simpa using h)
  rw [this]; rfl
theorem tx_some {t : ByteArray} (h : t.size ≠ 0) : t.toList.isEmpty = false := by
  rw [Go.ByteArray.toList_eq, List.isEmpty_eq_false_iff]
  intro e
  have : t.data.toList.length = 0 := by rw [e]; rfl
  exact h (by simpa using this)
/-- within the laws' bound -/
def lightF (f : List Nat × List Nat) : Bool := decide (f.1.length ≤ 100) && decide (f.2.length ≤ 400)
theorem lightF_iff (f : List Nat × List Nat) : lightF f = true ↔ f.1.length ≤ 100 ∧ f.2.length ≤ 400 := by
  unfold lightF
  simp only [Bool.and_eq_true, decide_eq_true_eq]
def heavyF (l : List (List Nat × List Nat)) : Bool := !(decide (l.length ≤ 30) && l.all lightF)
theorem heavy_no {l : List (List Nat × List Nat)} : heavyF l = false ↔ l.length ≤ 30 ∧ ∀ f ∈ l, lightF f = true := by
  unfold heavyF
  simp only [Bool.not_eq_false', Bool.and_eq_true, decide_eq_true_eq, List.all_eq_true]
theorem getF_mem {l : List (List Nat × List Nat)} {j : Nat} (h : j < l.length) : l.getD j noF ∈ l := by
  rw [List.getD_eq_getElem?_getD, List.getElem?_eq_getElem h]
  exact List.getElem_mem _
theorem memF_get {l : List (List Nat × List Nat)} {f : List Nat × List Nat} (h : f ∈ l) : ∃ j, j < l.length ∧ l.getD j noF = f := by
  obtain ⟨j, hj, e⟩ := List.getElem_of_mem h
  exact ⟨j, hj, by rw [List.getD_eq_getElem?_getD, List.getElem?_eq_getElem hj]; exact e⟩
theorem heavy_yes {l : List (List Nat × List Nat)} (h : 30 < l.length ∨ ∃ j, j < l.length ∧ lightF (l.getD j noF) = false) : heavyF l = true := by
  cases hb : heavyF l with
  | true => rfl
  | false =>
    obtain ⟨h1, h2⟩ := heavy_no.1 hb
    rcases h with h | ⟨j, hj, h⟩
    · omega
    · rw [h2 _ (getF_mem hj)] at h; cases h
/-- a file's fields, where the walk asks for them -/
theorem SlF.fields {w : World} {p : Option Addr} {n cap : Nat} {l : List (List Nat × List Nat)} (h : Sl w 2 (.slice p n cap) (rowsF l)) {j : Nat} (hj : j < l.length) :
    ∃ a : Addr, p = some a ∧ w.cell? (a.add (j * 2)) = some (.string (tx (l.getD j noF).1)) ∧ w.cell? ⟨(a.add (j * 2)).block, (a.add (j * 2)).off + 1, none⟩ = some (.string (tx (l.getD j noF).2)) := by
  obtain ⟨a, e, h1, h2⟩ := SlF.name h hj
  refine ⟨a, e, ?_, h2⟩
  rw [Deep.add_add, Nat.add_zero] at h1
  exact h1
set_option maxRecDepth 100000 in
set_option maxHeartbeats 1000000 in
theorem f_maySize (f : List Nat × List Nat) (b : Bool) (w : World) (hb : mayF f = b) :
    Calls Try.prog 106 #[.agg (rowF f).toArray] w fun e w' => e = .returned (.bool b) ∧ Below w.heap.size w w' := by
  have hm := mayF_iff f
  have s1 : (tx f.1).size = f.1.length := tx_size _
  have s2 : (tx f.2).size = f.2.length := tx_size _
  have hr : (rowF f).toArray = #[.string (tx f.1), .string (tx f.2)] := rfl
  rw [hr]
  generalize tx f.1 = X at *
  generalize tx f.2 = Y at *
  rw [hb, ← s1, ← s2] at hm
  clear hr hb s1 s2
  by_cases h0 : X.size = 0
  · have t1 := tx_none h0
    have e0 : b = false := by cases b with | false => rfl | true => have := hm.1 rfl; omega
    subst e0
    clear hm h0
    go_enter Try.func106, Try.ntmps106
    go_wp2
    go_ret
    exact ⟨rfl, (Below.refl _ _).alloc (Nat.le_refl _) _⟩
  · have t1 := tx_some h0
    by_cases h1 : X.size ≤ 20
    · have g1 : decide ((X.size : Int) ≤ 20) = true := by simp; omega
      by_cases h2 : Y.size ≤ 300
      · have g2 : decide ((Y.size : Int) ≤ 300) = true := by simp; omega
        have e0 : b = true := hm.2 ⟨by omega, h1, h2⟩
        subst e0
        clear hm h0 h1 h2
        go_enter Try.func106, Try.ntmps106
        go_wp2
        go_ret
        exact ⟨rfl, (Below.refl _ _).alloc (Nat.le_refl _) _⟩
      · have g2 : decide ((Y.size : Int) ≤ 300) = false := by simp; omega
        have e0 : b = false := by cases b with | false => rfl | true => have := hm.1 rfl; omega
        subst e0
        clear hm h0 h1 h2
        go_enter Try.func106, Try.ntmps106
        go_wp2
        go_ret
        exact ⟨rfl, (Below.refl _ _).alloc (Nat.le_refl _) _⟩
    · have g1 : decide ((X.size : Int) ≤ 20) = false := by simp; omega
      have e0 : b = false := by cases b with | false => rfl | true => have := hm.1 rfl; omega
      subst e0
      clear hm h0 h1
      go_enter Try.func106, Try.ntmps106
      go_wp2
      go_ret
      exact ⟨rfl, (Below.refl _ _).alloc (Nat.le_refl _) _⟩
/-- what a walk of Check asks of the list -/
theorem check_long {l : List (List Nat × List Nat)} (h : 12 < l.length) : checkF l = 111 := checkF_size (.inl h)
theorem check_bad {l : List (List Nat × List Nat)} {j : Nat} (hj : j < l.length) (h : mayF (l.getD j noF) = false) : checkF l = 111 := checkF_size (.inr ⟨_, getF_mem hj, h⟩)
theorem check_falls {l : List (List Nat × List Nat)} (h12 : l.length ≤ 12) (hk : ∀ k, k < l.length → mayF (l.getD k noF) = true) {j : Nat} (hj : j + 1 < l.length) (h : ltB (l.getD j noF).1 (l.getD (j + 1) noF).1 = false) : checkF l = 110 := by
  refine checkF_order h12 (fun f hf => ?_) (rises_not hj h)
  obtain ⟨k, q, rfl⟩ := memF_get hf
  exact hk k q
theorem check_all {l : List (List Nat × List Nat)} (h12 : l.length ≤ 12) (hk : ∀ k, k < l.length → mayF (l.getD k noF) = true) (h : ∀ i, i + 1 < l.length → ltB (l.getD i noF).1 (l.getD (i + 1) noF).1 = true) : checkF l = 0 := by
  refine checkF_ok.2 ⟨h12, fun f hf => ?_, rises_of h⟩
  obtain ⟨k, q, rfl⟩ := memF_get hf
  exact hk k q
theorem size_file : (Try.prog.info? 141).map (·.size) = some 2 := by kernel_rfl
set_option maxRecDepth 100000 in
set_option maxHeartbeats 2000000 in
theorem f_Check (l : List (List Nat × List Nat)) (p : Option Addr) (cap n : Nat) (w : World) (hn : checkF l = n) (hbys : ∀ f ∈ l, Bys f.1) (hl : l.length ≤ 1000000) (hS : Sl w 2 (.slice p l.length cap) (rowsF l)) :
    Calls Try.prog 90 #[.slice p l.length cap] w fun e w' => e = .returned (.int .i64 (n : Int)) ∧ Below w.heap.size w w' := by
  have HS := Lib.hid hS
  have HN := Lib.hid hn
  have HY := Lib.hid hbys
  clear hS hn hbys
  by_cases h0 : 12 < l.length
  · have g0 : (12 : Int) < (l.length : Int) := by omega
    have e0 : n = 111 := by rw [← HN.out, check_long h0]
    subst e0
    clear h0
    go_enter Try.func90, Try.ntmps90
    go_wp2
    go_ret
    exact ⟨rfl, Below.refl _ _⟩
  have g0 : ¬ (12 : Int) < (l.length : Int) := by omega
  have h12 : Hid (l.length ≤ 12) := Lib.hid (by omega)
  clear h0
  go_enter Try.func90, Try.ntmps90
  go_wp2
  go_loopw [11] (fun i wr => ∃ j : Nat, j ≤ l.length ∧ i = .int .i64 (j : Int) ∧ (∀ k, k < j → mayF (l.getD k noF) = true) ∧ Below w.heap.size w wr) (fun i _ => l.length - (intOf i).toNat)
  case atStart => exact ⟨0, by omega, rfl, fun k h => by omega, Below.refl _ _⟩
  case round =>
    obtain ⟨j, hj, rfl, hk, gb⟩ := hrel
    have HK := Lib.hid hk
    clear hk
    by_cases hlt : j < l.length
    · obtain ⟨a, rfl, hc⟩ := (HS.out.below gb).row (rowsF_at hlt)
      have d1 : (j : Int) < (l.length : Int) := by omega
      have HC := Lib.hid hc
      clear hc
      have k1 := Blk.new' wr 141 (c := #[.string ⟨#[]⟩, .string ⟨#[]⟩]) [.string ⟨#[]⟩, .string ⟨#[]⟩] rfl
      have k2 := k1.row (rowF (l.getD j noF)) rfl
      have kb := below_setRow ((Below.refl wr.heap.size wr).alloc (Nat.le_refl _) (.cells #[.string ⟨#[]⟩, .string ⟨#[]⟩] 141)) (Nat.le_refl wr.heap.size) (rowF (l.getD j noF)).toArray
      by_cases hm : mayF (l.getD j noF) = true
      · have HM := Lib.hid (fun w => f_maySize (l.getD j noF) true w hm)
        have HNX : Hid (∀ k, k < j + 1 → mayF (l.getD k noF) = true) := Lib.hid fun k hk => by
          by_cases e : k = j
          · subst e; exact hm
          · exact HK.out k (by omega)
        clear hm
        have h1 := rowF_one (l.getD j noF)
        have h2 : (rowF (l.getD j noF)).length = 2 := rfl
        generalize rowF (l.getD j noF) = R at *
        go_wp2_with (first | (refine wpList_load_addr rfl 141 _ rfl _ rfl R HC.out Try.underlying141 rfl (by rw [size_file, h2]) ?_) | (refine wpList_store_blk rfl 141 _ _ rfl wr.heap.size R rfl rfl k1 (by rw [size_file, h2]) h2.symm h1 ?_) | (refine wpList_load_blk rfl 141 _ rfl _ rfl k2 Try.underlying141 rfl (by rw [size_file, h2]) ?_))
        (with_reducible refine (HM.out _).mono ?_)
        rintro e w9 ⟨rfl, hb9⟩
        have kb9 := gb.trans ((kb.trans (hb9.mono kb.size)).mono gb.size)
        clear k1 k2 kb hb9 HC gb HM
        generalize wr.heap.size = B at *
        go_wp2
        go_roundw
        case rel => exact ⟨j + 1, by omega, by go_num, HNX.out, kb9⟩
        case measure => simp [intOf]; omega
      · have hm0 : mayF (l.getD j noF) = false := by simpa using hm
        have HM := Lib.hid (fun w => f_maySize (l.getD j noF) false w hm0)
        have e0 : n = 111 := by rw [← HN.out, check_bad hlt hm0]
        subst e0
        clear hm hm0
        have h1 := rowF_one (l.getD j noF)
        have h2 : (rowF (l.getD j noF)).length = 2 := rfl
        generalize rowF (l.getD j noF) = R at *
        go_wp2_with (first | (refine wpList_load_addr rfl 141 _ rfl _ rfl R HC.out Try.underlying141 rfl (by rw [size_file, h2]) ?_) | (refine wpList_store_blk rfl 141 _ _ rfl wr.heap.size R rfl rfl k1 (by rw [size_file, h2]) h2.symm h1 ?_) | (refine wpList_load_blk rfl 141 _ rfl _ rfl k2 Try.underlying141 rfl (by rw [size_file, h2]) ?_))
        (with_reducible refine (HM.out _).mono ?_)
        rintro e w9 ⟨rfl, hb9⟩
        have kb9 := gb.trans ((kb.trans (hb9.mono kb.size)).mono gb.size)
        clear k1 k2 kb hb9 HC gb HM
        generalize wr.heap.size = B at *
        go_wp2
        go_ret
        exact ⟨rfl, kb9⟩
    · obtain rfl : j = l.length := by omega
      have GB0 := Lib.hid gb
      clear gb hlt
      go_wp2
      go_loopw [5] (fun i wr => ∃ j : Nat, 1 ≤ j ∧ (j ≤ l.length ∨ j = 1) ∧ i = .int .i64 (j : Int) ∧ (∀ k, k + 1 < j → ltB (l.getD k noF).1 (l.getD (k + 1) noF).1 = true) ∧ Below w.heap.size w wr) (fun i _ => l.length - (intOf i).toNat)
      case atStart => exact ⟨1, by omega, .inr rfl, rfl, fun k h => by omega, GB0.out⟩
      case round =>
        obtain ⟨j, hj1, hj, rfl, hr, gb⟩ := hrel
        have HR := Lib.hid hr
        clear hr GB0
        by_cases hlt : j < l.length
        · obtain ⟨i, rfl⟩ : ∃ i, j = i + 1 := ⟨j - 1, by omega⟩
          obtain ⟨a, rfl, c1, _⟩ := SlF.fields (HS.out.below gb) (j := i) (by omega)
          obtain ⟨a', ea, c2, _⟩ := SlF.fields (HS.out.below gb) hlt
          cases ea
          have d1 : ((i + 1 : Nat) : Int) < (l.length : Int) := by omega
          have d2 : ((i + 1 : Nat) : Int) - 1 = (i : Int) := by omega
          have q1 : Bys (l.getD i noF).1 := HY.out _ (getF_mem (by omega))
          have q2 : Bys (l.getD (i + 1) noF).1 := HY.out _ (getF_mem hlt)
          have hless := less_tx (tx (l.getD i noF).1) (tx (l.getD (i + 1) noF).1)
          rw [sl_tx q1, sl_tx q2] at hless
          have HL := Lib.hid hless
          clear q1 q2 hless d2
          generalize tx (l.getD i noF).1 = X at *
          generalize tx (l.getD (i + 1) noF).1 = Y at *
          have i1 : (i : Int) < (l.length : Int) := by omega
          by_cases hlt2 : ltB (l.getD i noF).1 (l.getD (i + 1) noF).1 = true
          · have g1 : Op.bytesLess X.toList Y.toList = true := by rw [HL.out]; exact hlt2
            have HN2 : Hid (∀ k, k + 1 < i + 1 + 1 → ltB (l.getD k noF).1 (l.getD (k + 1) noF).1 = true) := Lib.hid fun k hk => by
              by_cases e : k = i
              · subst e; exact hlt2
              · exact HR.out k (by omega)
            clear HL hlt2
            go_wp2
            go_quiet (fail)
            go_wp2
            go_roundw
            case rel => exact ⟨i + 2, by omega, .inl (by omega), by go_num, HN2.out, below_drewN gb _⟩
            case measure => simp [intOf]; omega
          · have g1 : Op.bytesLess X.toList Y.toList = false := by rw [HL.out]; simpa using hlt2
            have e0 : n = 110 := by rw [← HN.out, check_falls h12.out HK.out hlt (by simpa using hlt2)]
            subst e0
            clear HL hlt2
            go_wp2
            go_quiet (fail)
            go_wp2
            go_ret
            exact ⟨rfl, below_drewN gb _⟩
        · have d1 : ¬ (j : Int) < (l.length : Int) := by omega
          have e0 : n = 0 := by
            rw [← HN.out]
            exact check_all h12.out HK.out fun i hi => HR.out i (by omega)
          subst e0
          go_wp2
          go_ret
          exact ⟨rfl, gb⟩
end Go.Proofs.Ytloogjdojojehaa
