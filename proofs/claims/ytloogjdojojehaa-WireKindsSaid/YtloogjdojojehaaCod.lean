/- Codecs, by plain lists: what is read of bytes, and what it is in bytes; numbers, texts, so many of a kind, one behind the other. -/
import Derived.Test.YtloogjdojojehaaV1
namespace Go.Proofs.Ytloogjdojojehaa
set_option linter.unusedVariables false

/-- a codec: what was written is read, whatever stands behind it; of its beginnings none is read (error 40); what is read was written so -/
structure Codes {α : Type} (p : List Nat → Except Nat (α × List Nat)) (enc : α → List Nat) (ok : α → Prop) : Prop where
  back : ∀ x r, ok x → p (enc x ++ r) = .ok (x, r)
  cut : ∀ x j, ok x → j < (enc x).length → p ((enc x).take j) = .error 40
  from_ : ∀ s x r, Bys s → p s = .ok (x, r) → ok x ∧ s = enc x ++ r
  bys : ∀ x, ok x → Bys (enc x)
section
variable {α β : Type} {p : List Nat → Except Nat (α × List Nat)} {enc : α → List Nat} {ok : α → Prop} {q : List Nat → Except Nat (β × List Nat)} {enc2 : β → List Nat} {ok2 : β → Prop}
theorem Codes.rest (h : Codes p enc ok) {s : List Nat} {x : α} {r : List Nat} (hs : Bys s) (e : p s = .ok (x, r)) : Bys r := by
  have := (h.from_ s x r hs e).2
  subst this
  exact Bys.of fun y hy => hs.mem (List.mem_append.2 (.inr hy))
/-- two, one behind the other -/
def pairP (p : List Nat → Except Nat (α × List Nat)) (q : List Nat → Except Nat (β × List Nat)) (s : List Nat) : Except Nat ((α × β) × List Nat) :=
  match p s with
  | .error e => .error e
  | .ok (x, r) => match q r with
    | .error e => .error e
    | .ok (y, t) => .ok ((x, y), t)
theorem pair_codes (h : Codes p enc ok) (k : Codes q enc2 ok2) : Codes (pairP p q) (fun z => enc z.1 ++ enc2 z.2) (fun z => ok z.1 ∧ ok2 z.2) where
  back := fun x r hx => by
    unfold pairP
    rw [List.append_assoc, h.back _ _ hx.1]
    simp only
    rw [k.back _ _ hx.2]
  cut := fun x j hx hj => by
    unfold pairP
    by_cases hlt : j < (enc x.1).length
    · rw [List.take_append_of_le_length (by omega), h.cut _ _ hx.1 hlt]
    · have e : (enc x.1 ++ enc2 x.2).take j = enc x.1 ++ (enc2 x.2).take (j - (enc x.1).length) := by
        rw [List.take_append, List.take_of_length_le (by omega)]
      rw [e, h.back _ _ hx.1]
      simp only
      rw [k.cut _ _ hx.2 (by rw [List.length_append] at hj; omega)]
  from_ := fun s x r hs e => by
    unfold pairP at e
    cases e1 : p s with
    | error er => rw [e1] at e; cases e
    | ok z =>
      obtain ⟨y, t⟩ := z
      rw [e1] at e
      simp only at e
      have h1 := h.from_ s y t hs e1
      have ht := h.rest hs e1
      cases e2 : q t with
      | error er => rw [e2] at e; cases e
      | ok z2 =>
        obtain ⟨y2, t2⟩ := z2
        rw [e2] at e
        simp only [Except.ok.injEq, Prod.mk.injEq] at e
        obtain ⟨rfl, rfl⟩ := e
        have h2 := k.from_ t y2 t2 ht e2
        exact ⟨⟨h1.1, h2.1⟩, by rw [h1.2, h2.2, List.append_assoc]⟩
  bys := fun x hx => (h.bys _ hx.1).app (k.bys _ hx.2)
/-- what is read must be so, or it is that error -/
def guardP (p : List Nat → Except Nat (α × List Nat)) (c : α → Bool) (er : Nat) (s : List Nat) : Except Nat (α × List Nat) :=
  match p s with
  | .error e => .error e
  | .ok (x, r) => if c x then .ok (x, r) else .error er
theorem guard_codes (h : Codes p enc ok) (c : α → Bool) (er : Nat) : Codes (guardP p c er) enc (fun x => ok x ∧ c x = true) where
  back := fun x r hx => by
    unfold guardP
    rw [h.back _ _ hx.1]
    simp only
    rw [if_pos hx.2]
  cut := fun x j hx hj => by
    unfold guardP
    rw [h.cut _ _ hx.1 hj]
  from_ := fun s x r hs e => by
    unfold guardP at e
    cases e1 : p s with
    | error er => rw [e1] at e; cases e
    | ok z =>
      obtain ⟨y, t⟩ := z
      rw [e1] at e
      simp only at e
      split at e
      · rename_i hc
        simp only [Except.ok.injEq, Prod.mk.injEq] at e
        obtain ⟨rfl, rfl⟩ := e
        have h1 := h.from_ s y t hs e1
        exact ⟨⟨h1.1, hc⟩, h1.2⟩
      · cases e
  bys := fun x hx => h.bys _ hx.1
/-- so many of a kind -/
def manyP (p : List Nat → Except Nat (α × List Nat)) : Nat → List Nat → Except Nat (List α × List Nat)
  | 0, s => .ok ([], s)
  | n + 1, s => match p s with
    | .error e => .error e
    | .ok (x, r) => match manyP p n r with
      | .error e => .error e
      | .ok (l, t) => .ok (x :: l, t)
theorem many_codes (h : Codes p enc ok) : ∀ n, Codes (manyP p n) (fun l => l.flatMap enc) (fun l => l.length = n ∧ ∀ x ∈ l, ok x)
  | 0 => {
      back := fun x r hx => by
        obtain rfl := List.eq_nil_of_length_eq_zero hx.1
        rfl
      cut := fun x j hx hj => by
        obtain rfl := List.eq_nil_of_length_eq_zero hx.1
        simp at hj
      from_ := fun s x r hs e => by
        simp only [manyP, Except.ok.injEq, Prod.mk.injEq] at e
        obtain ⟨rfl, rfl⟩ := e
        exact ⟨⟨rfl, fun x hx => by cases hx⟩, rfl⟩
      bys := fun x hx => by
        obtain rfl := List.eq_nil_of_length_eq_zero hx.1
        exact Bys.of fun y hy => by cases hy }
  | n + 1 => {
      back := fun l r hl => by
        match l, hl with
        | x :: l, hl =>
          have ih := (many_codes h n).back l r ⟨by simpa using hl.1, fun y hy => hl.2 y (by simp [hy])⟩
          rw [List.flatMap_cons, List.append_assoc, manyP, h.back _ _ (hl.2 x (by simp))]
          simp only
          rw [ih]
      cut := fun l j hl hj => by
        match l, hl with
        | x :: l, hl =>
          have hx := hl.2 x (by simp)
          rw [List.flatMap_cons] at hj ⊢
          by_cases hlt : j < (enc x).length
          · rw [List.take_append_of_le_length (by omega), manyP, h.cut _ _ hx hlt]
          · have e : (enc x ++ l.flatMap enc).take j = enc x ++ (l.flatMap enc).take (j - (enc x).length) := by
              rw [List.take_append, List.take_of_length_le (by omega)]
            rw [e, manyP, h.back _ _ hx]
            simp only
            rw [(many_codes h n).cut l _ ⟨by simpa using hl.1, fun y hy => hl.2 y (by simp [hy])⟩ (by rw [List.length_append] at hj; omega)]
      from_ := fun s l r hs e => by
        rw [manyP] at e
        cases e1 : p s with
        | error er => rw [e1] at e; cases e
        | ok z =>
          obtain ⟨y, t⟩ := z
          rw [e1] at e
          simp only at e
          have h1 := h.from_ s y t hs e1
          have ht := h.rest hs e1
          cases e2 : manyP p n t with
          | error er => rw [e2] at e; cases e
          | ok z2 =>
            obtain ⟨l2, t2⟩ := z2
            rw [e2] at e
            simp only [Except.ok.injEq, Prod.mk.injEq] at e
            obtain ⟨rfl, rfl⟩ := e
            have h2 := (many_codes h n).from_ t l2 t2 ht e2
            refine ⟨⟨by simp [h2.1.1], fun x hx => ?_⟩, by rw [List.flatMap_cons, h1.2, h2.2, List.append_assoc]⟩
            rcases List.mem_cons.1 hx with rfl | hx
            · exact h1.1
            · exact h2.1.2 x hx
      bys := fun l hl => Bys.of fun y hy => by
        obtain ⟨x, hx, hy⟩ := List.mem_flatMap.1 hy
        exact (h.bys x (hl.2 x hx)).mem hy }
end
/-! ### numbers -/
/-- a number in w bytes -/
def fixP (w : Nat) (s : List Nat) : Except Nat (Nat × List Nat) := if s.length < w then .error 40 else .ok (fixN s w, s.drop w)
/-- a number by sevens of bits -/
def getP (s : List Nat) : Except Nat (Nat × List Nat) := if (getL s).2.2 = 0 then .ok ((getL s).1, s.drop (getL s).2.1) else .error (getL s).2.2
/-- so many bytes -/
def rawP (n : Nat) (s : List Nat) : Except Nat (List Nat × List Nat) := if s.length < n then .error 40 else .ok (s.take n, s.drop n)
theorem raw_codes (n : Nat) : Codes (rawP n) id (fun x => x.length = n ∧ Bys x) where
  back := fun x r hx => by
    obtain ⟨rfl, _⟩ := hx
    unfold rawP
    rw [if_neg (by simp)]
    simp
  cut := fun x j hx hj => by
    obtain ⟨rfl, _⟩ := hx
    unfold rawP
    simp only [id_eq] at hj ⊢
    rw [if_pos (by rw [List.length_take]; omega)]
  from_ := fun s x r hs e => by
    unfold rawP at e
    split at e
    · cases e
    · simp only [Except.ok.injEq, Prod.mk.injEq] at e
      obtain ⟨rfl, rfl⟩ := e
      exact ⟨⟨by rw [List.length_take]; omega, hs.take n⟩, by simp⟩
  bys := fun x hx => hx.2
theorem fix_told : ∀ (k : Nat) {a b : List Nat}, Bys a → Bys b → fixN a k = fixN b k → ∀ j, j < k → a.getD j 0 = b.getD j 0
  | 0, _, _, _, _, _, j, hj => by omega
  | k + 1, a, b, ha, hb, h, j, hj => by
    have h1 : fixN a k * 256 + a.getD k 0 = fixN b k * 256 + b.getD k 0 := h
    have h2 := ha k
    have h3 := hb k
    rcases Nat.lt_or_ge j k with h4 | h4
    · exact fix_told k ha hb (by omega) j h4
    · obtain rfl : j = k := by omega
      omega
theorem fix_codes (w : Nat) : Codes (fixP w) (fun n => bigL n w) (fun n => n < 2 ^ (8 * w)) where
  back := fun x r hx => by
    unfold fixP
    have hl := big_len x w
    rw [if_neg (by rw [List.length_append, hl]; omega), fix_put, Nat.mod_eq_of_lt hx, List.drop_append_of_le_length (by omega), List.drop_of_length_le (by omega)]
    rfl
  cut := fun x j hx hj => by
    unfold fixP
    have hl := big_len x w
    rw [if_pos (by rw [List.length_take]; omega)]
  from_ := fun s x r hs e => by
    unfold fixP at e
    split at e
    · cases e
    · rename_i hlt
      simp only [Except.ok.injEq, Prod.mk.injEq] at e
      obtain ⟨rfl, rfl⟩ := e
      refine ⟨fix_lt hs w, ?_⟩
      have hb : bigL (fixN s w) w = s.take w := by
        refine getD_ext w (big_len _ _) (by rw [List.length_take]; omega) fun j hj => ?_
        rw [getD_take _ _ _ hj]
        refine fix_told w (big_bys _ _) hs ?_ j hj
        have h1 := fix_put (fixN s w) w []
        rw [List.append_nil] at h1
        rw [h1, Nat.mod_eq_of_lt (fix_lt hs w)]
      rw [hb, List.take_append_drop]
  bys := fun x hx => big_bys _ _
theorem get_codes : Codes getP putL (fun n => n < 18446744073709551616) where
  back := fun x r hx => by
    unfold getP
    rw [get_put hx]
    simp
  cut := fun x j hx hj => by
    obtain ⟨hi, y, e, h1, h2, h3⟩ := put_shape hx
    have hl : (putL x).length = hi.length + 1 := by rw [e]; simp
    have ht : (putL x).take j = hi.take j := by rw [e, List.take_append_of_le_length (by omega)]
    have hg := get_high ((putL x).take j) (fun i hij => by
      rw [ht] at hij ⊢
      rw [List.length_take] at hij
      rw [getD_take _ _ _ (by omega)]
      exact (h1 _ (getD_mem _ _ (by omega))).1) (by rw [List.length_take]; omega)
    unfold getP
    rw [hg]
    simp
  from_ := fun s x r hs e => by
    unfold getP at e
    split at e
    · rename_i h0
      simp only [Except.ok.injEq, Prod.mk.injEq] at e
      obtain ⟨rfl, rfl⟩ := e
      rcases getL_cases s with ⟨h, _⟩ | h | ⟨n, k, h, hn, hp, _⟩
      · rw [h] at h0; cases h0
      · rw [h] at h0; cases h0
      · rw [h]
        exact ⟨hn, by rw [hp, List.take_append_drop]⟩
    · cases e
  bys := fun x hx => put_bys hx
section
variable {α β : Type} {p : List Nat → Except Nat (α × List Nat)} {enc : α → List Nat} {ok : α → Prop} {q : α → List Nat → Except Nat (β × List Nat)} {enc2 : β → List Nat} {ok2 : β → Prop}
/-- what is read hangs on what was read ahead of it -/
def depP (p : List Nat → Except Nat (α × List Nat)) (q : α → List Nat → Except Nat (β × List Nat)) (s : List Nat) : Except Nat (β × List Nat) :=
  match p s with
  | .error e => .error e
  | .ok (x, r) => q x r
theorem dep_codes (h : Codes p enc ok) (tag : β → α) (k : ∀ a, ok a → Codes (q a) enc2 (fun y => tag y = a ∧ ok2 y)) : Codes (depP p q) (fun y => enc (tag y) ++ enc2 y) (fun y => ok (tag y) ∧ ok2 y) where
  back := fun x r hx => by
    unfold depP
    rw [List.append_assoc, h.back _ _ hx.1]
    exact (k _ hx.1).back _ _ ⟨rfl, hx.2⟩
  cut := fun x j hx hj => by
    unfold depP
    by_cases hlt : j < (enc (tag x)).length
    · rw [List.take_append_of_le_length (by omega), h.cut _ _ hx.1 hlt]
    · have e : (enc (tag x) ++ enc2 x).take j = enc (tag x) ++ (enc2 x).take (j - (enc (tag x)).length) := by
        rw [List.take_append, List.take_of_length_le (by omega)]
      rw [e, h.back _ _ hx.1]
      exact (k _ hx.1).cut _ _ ⟨rfl, hx.2⟩ (by rw [List.length_append] at hj; omega)
  from_ := fun s x r hs e => by
    unfold depP at e
    cases e1 : p s with
    | error er => rw [e1] at e; cases e
    | ok z =>
      obtain ⟨y, t⟩ := z
      rw [e1] at e
      have h1 := h.from_ s y t hs e1
      have h2 := (k y h1.1).from_ t x r (h.rest hs e1) e
      obtain ⟨⟨rfl, h3⟩, h4⟩ := h2
      exact ⟨⟨h1.1, h3⟩, by rw [h1.2, h4, List.append_assoc]⟩
  bys := fun x hx => (h.bys _ hx.1).app ((k _ hx.1).bys _ ⟨rfl, hx.2⟩)
/-- only what is so is asked -/
theorem Codes.only (h : Codes p enc ok) {ok' : α → Prop} (e : ∀ x, ok x ↔ ok' x) : Codes p enc ok' where
  back := fun x r hx => h.back x r ((e x).2 hx)
  cut := fun x j hx => h.cut x j ((e x).2 hx)
  from_ := fun s x r hs he => ⟨(e x).1 (h.from_ s x r hs he).1, (h.from_ s x r hs he).2⟩
  bys := fun x hx => h.bys x ((e x).2 hx)
end
/-- a text: how long it is, and its bytes -/
def textP : List Nat → Except Nat (List Nat × List Nat) := depP getP rawP
theorem text_codes : Codes textP (fun x => putL x.length ++ x) (fun x => x.length < 18446744073709551616 ∧ Bys x) :=
  dep_codes get_codes List.length fun a _ => raw_codes a
section
variable {α : Type} {p : List Nat → Except Nat (α × List Nat)} {enc : α → List Nat} {ok : α → Prop}
/-- how many, at most so many, and each of them -/
def countP (p : List Nat → Except Nat (α × List Nat)) (most er : Nat) : List Nat → Except Nat (List α × List Nat) := depP (guardP getP (fun n => decide (n ≤ most)) er) (manyP p)
theorem count_codes (h : Codes p enc ok) (most er : Nat) (hm : most < 18446744073709551616) : Codes (countP p most er) (fun l => putL l.length ++ l.flatMap enc) (fun l => l.length ≤ most ∧ ∀ x ∈ l, ok x) := by
  have h1 := dep_codes (guard_codes get_codes (fun n => decide (n ≤ most)) er) (q := manyP p) (enc2 := fun l => l.flatMap enc) (ok2 := fun l => ∀ x ∈ l, ok x) List.length fun a _ => many_codes h a
  refine h1.only fun l => ⟨fun hl => ⟨of_decide_eq_true hl.1.2, hl.2⟩, fun hl => ⟨⟨by omega, decide_eq_true hl.1⟩, hl.2⟩⟩
/-- all of the bytes -/
def wholeP (p : List Nat → Except Nat (α × List Nat)) (s : List Nat) : Except Nat α :=
  match p s with
  | .error e => .error e
  | .ok (x, r) => if r.length = 0 then .ok x else .error 42
theorem whole_back (h : Codes p enc ok) {x : α} (hx : ok x) : wholeP p (enc x) = .ok x := by
  have := h.back x [] hx
  rw [List.append_nil] at this
  unfold wholeP
  rw [this]
  rfl
theorem whole_more (h : Codes p enc ok) {x : α} (hx : ok x) {r : List Nat} (hr : r.length ≠ 0) : wholeP p (enc x ++ r) = .error 42 := by
  unfold wholeP
  rw [h.back x r hx]
  simp only
  rw [if_neg hr]
theorem whole_cut (h : Codes p enc ok) {x : α} (hx : ok x) {j : Nat} (hj : j < (enc x).length) : wholeP p ((enc x).take j) = .error 40 := by
  unfold wholeP
  rw [h.cut x j hx hj]
theorem whole_from (h : Codes p enc ok) {s : List Nat} {x : α} (hs : Bys s) (e : wholeP p s = .ok x) : ok x ∧ s = enc x := by
  unfold wholeP at e
  cases e1 : p s with
  | error er => rw [e1] at e; cases e
  | ok z =>
    obtain ⟨y, t⟩ := z
    rw [e1] at e
    simp only at e
    split at e
    · rename_i ht
      cases e
      have h1 := h.from_ s x t hs e1
      have ht0 : t = [] := List.eq_nil_of_length_eq_zero ht
      subst ht0
      exact ⟨h1.1, by rw [h1.2, List.append_nil]⟩
    · cases e
end
section
variable {α β : Type} {p : List Nat → Except Nat (α × List Nat)} {enc : α → List Nat} {ok : α → Prop}
/-- what is read, put together -/
def mapP (f : α → β) (p : List Nat → Except Nat (α × List Nat)) (s : List Nat) : Except Nat (β × List Nat) :=
  match p s with
  | .error e => .error e
  | .ok (x, r) => .ok (f x, r)
theorem map_codes (h : Codes p enc ok) (f : α → β) (g : β → α) (hfg : ∀ x, g (f x) = x) : Codes (mapP f p) (fun y => enc (g y)) (fun y => ok (g y) ∧ f (g y) = y) where
  back := fun y r hy => by
    unfold mapP
    rw [h.back _ _ hy.1]
    simp only
    rw [hy.2]
  cut := fun y j hy hj => by
    unfold mapP
    rw [h.cut _ _ hy.1 hj]
  from_ := fun s y r hs e => by
    unfold mapP at e
    cases e1 : p s with
    | error er => rw [e1] at e; cases e
    | ok z =>
      obtain ⟨x, t⟩ := z
      rw [e1] at e
      simp only [Except.ok.injEq, Prod.mk.injEq] at e
      obtain ⟨rfl, rfl⟩ := e
      have h1 := h.from_ s x t hs e1
      rw [hfg]
      exact ⟨⟨h1.1, rfl⟩, h1.2⟩
  bys := fun y hy => h.bys _ hy.1
/-- read only if it is there; else it is d -/
def condP (b : Bool) (p : List Nat → Except Nat (α × List Nat)) (d : α) (s : List Nat) : Except Nat (α × List Nat) := if b then p s else .ok (d, s)
theorem cond_codes (h : Codes p enc ok) (b : Bool) (d : α) : Codes (condP b p d) (fun x => if b then enc x else []) (fun x => if b then ok x else x = d) := by
  cases b with
  | true => exact h
  | false => exact {
      back := fun x r hx => by
        obtain rfl : x = d := hx
        rfl
      cut := fun x j hx hj => by simp at hj
      from_ := fun s x r hs e => by
        unfold condP at e
        simp only [Bool.false_eq_true, if_false, Except.ok.injEq, Prod.mk.injEq] at e
        obtain ⟨rfl, rfl⟩ := e
        exact ⟨rfl, rfl⟩
      bys := fun x hx => Bys.of fun y hy => by cases hy }
/-- how many, told in one byte, at most so many, and each of them -/
def countB (p : List Nat → Except Nat (α × List Nat)) (most er : Nat) : List Nat → Except Nat (List α × List Nat) := depP (guardP (fixP 1) (fun n => decide (n ≤ most)) er) (manyP p)
theorem countB_codes (h : Codes p enc ok) (most er : Nat) (hm : most < 256) : Codes (countB p most er) (fun l => bigL l.length 1 ++ l.flatMap enc) (fun l => l.length ≤ most ∧ ∀ x ∈ l, ok x) := by
  have h1 := dep_codes (guard_codes (fix_codes 1) (fun n => decide (n ≤ most)) er) (q := manyP p) (enc2 := fun l => l.flatMap enc) (ok2 := fun l => ∀ x ∈ l, ok x) List.length fun a _ => many_codes h a
  refine h1.only fun l => ⟨fun hl => ⟨of_decide_eq_true hl.1.2, hl.2⟩, fun hl => ⟨⟨by omega, decide_eq_true hl.1⟩, hl.2⟩⟩
end
end Go.Proofs.Ytloogjdojojehaa
