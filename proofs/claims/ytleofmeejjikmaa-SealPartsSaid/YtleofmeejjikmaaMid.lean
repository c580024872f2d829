/- Parts of a block that is known whole: read, told as text, copied to, written; for regions in any order. -/
import Derived.Test.YtleofmeejjikmaaG1
import Derived.Lib.BufferWrite
namespace Go.Proofs.Ytleofmeejjikmaa
open Go.RowKit
set_option linter.unusedVariables false

theorem lit16 : (ints .u8 (nn (zerN 16))).toArray = #[(.int .u8 0 : Value), (.int .u8 0 : Value), (.int .u8 0 : Value), (.int .u8 0 : Value), (.int .u8 0 : Value), (.int .u8 0 : Value), (.int .u8 0 : Value), (.int .u8 0 : Value), (.int .u8 0 : Value), (.int .u8 0 : Value), (.int .u8 0 : Value), (.int .u8 0 : Value), (.int .u8 0 : Value), (.int .u8 0 : Value), (.int .u8 0 : Value), (.int .u8 0 : Value)] := rfl
theorem lit32 : (ints .u8 (nn (zerN 32))).toArray = #[(.int .u8 0 : Value), (.int .u8 0 : Value), (.int .u8 0 : Value), (.int .u8 0 : Value), (.int .u8 0 : Value), (.int .u8 0 : Value), (.int .u8 0 : Value), (.int .u8 0 : Value), (.int .u8 0 : Value), (.int .u8 0 : Value), (.int .u8 0 : Value), (.int .u8 0 : Value), (.int .u8 0 : Value), (.int .u8 0 : Value), (.int .u8 0 : Value), (.int .u8 0 : Value), (.int .u8 0 : Value), (.int .u8 0 : Value), (.int .u8 0 : Value), (.int .u8 0 : Value), (.int .u8 0 : Value), (.int .u8 0 : Value), (.int .u8 0 : Value), (.int .u8 0 : Value), (.int .u8 0 : Value), (.int .u8 0 : Value), (.int .u8 0 : Value), (.int .u8 0 : Value), (.int .u8 0 : Value), (.int .u8 0 : Value), (.int .u8 0 : Value), (.int .u8 0 : Value)] := rfl
theorem Blk.cast {w : World} {b : Nat} {t : TypeId} {vs vs' : List Value} (h : Blk w b t vs) (e : vs = vs') : Blk w b t vs' := e ▸ h
theorem Blk.part {w : World} {b : Nat} {t : TypeId} {x y z : List Value} (h : Blk w b t (x ++ (y ++ z))) (o : Nat) (ho : o = x.length) : w.rangeAt b o y := by
  subst ho
  exact Blk.range (x := x) (y := y) (z := z) (by rw [List.append_assoc]; exact h)
theorem Blk.one {w : World} {b : Nat} {t : TypeId} {x z : List Value} {v : Value} (h : Blk w b t (x ++ (v :: z))) (o : Nat) (ho : o = x.length) : w.cell? ⟨b, o, none⟩ = some v := by
  subst ho
  rw [h.cell]
  simp
theorem take_mid (x y z : List Value) : (x ++ (y ++ z)).take x.length = x := by simp
theorem drop_mid (x y z : List Value) : (x ++ (y ++ z)).drop (x.length + y.length) = z := by
  rw [← List.append_assoc, List.drop_append_of_le_length (by simp)]
  simp
/-- the cells of a part, written one by one -/
theorem setCells_part {b : Nat} {t : TypeId} : ∀ (y y' x z : List Value) (w : World), Blk w b t (x ++ (y ++ z)) → y.length = y'.length → Blk (w.setCells b x.length y') b t (x ++ (y' ++ z))
  | [], [], x, z, w, h, _ => h
  | [], _ :: _, _, _, _, _, hl => by cases hl
  | _ :: _, [], _, _, _, _, hl => by cases hl
  | a :: y, a' :: y', x, z, w, h, hl => by
    have h1 := h.set x.length a'
    have e : (x ++ (a :: y ++ z)).set x.length a' = (x ++ [a']) ++ (y ++ z) := by simp
    rw [e] at h1
    have h2 := setCells_part y y' (x ++ [a']) z _ h1 (by simpa using hl)
    rw [List.length_append] at h2
    rw [show x ++ (a' :: y' ++ z) = (x ++ [a']) ++ (y' ++ z) by simp]
    exact h2
theorem setCells_otherB {b b' : Nat} {t : TypeId} {cs : List Value} (hb : b' ≠ b) : ∀ (y : List Value) (o : Nat) (w : World), Blk w b' t cs → Blk (w.setCells b o y) b' t cs
  | [], _, _, h => h
  | v :: y, o, w, h => setCells_otherB hb y (o + 1) _ (h.other (a := ⟨b, o, none⟩) (fun e => hb e.symm) v)
section
variable {P : Program} {C : World → Prop} {zs : Array Oper} {Q : Act → Prop} {op : Oper} {rest : List Oper} {a : Act} {w : World}

theorem run_bytes_mid (src dst e : TypeId) (b o n cap : Nat) (l : List Int) (hs : P.underlying src = some (.slice e)) (he : P.underlying e = some (.int .u8)) (hd : P.underlying dst = some .string)
    (hc : w.rangeAt b o (ints .u8 l)) (hn : n = l.length) :
    (convert src dst (.slice (some ⟨b, o, none⟩) n cap)).run P w = .ok (.string (bs l)) w := by
  subst hn
  rw [run_convert_bytes_string w src dst e _ _ _ hs he hd, ← bs_fold]
  refine run_bytesToString w ⟨b, o, none⟩ l.length cap l ?_
  have := run_loadCells_list (P := P) w ⟨b, o, none⟩ (ints .u8 l) (fun j v hv => by rw [Addr.add_mid]; exact hc j v hv)
  simpa [ints] using this
theorem run_loadVar_one (w : World) (p : Addr) (ty : TypeId) (v : Value) (d : TypeDesc) (hc : w.cell? p = some v) (hu : P.underlying ty = some d) (hd : d.isRow = false) :
    (loadVar ty p).run P w = .ok v w := by
  have hagg : (isAgg ty).run P w = .ok false w := by
    unfold isAgg
    rw [Sem.run_bind, run_underlying hu w]
    cases d <;> simp_all
  simp [loadVar, Sem.run_bind, hagg, hc]
/-- one cell is read, in a class of worlds -/
theorem wpQuiet_load_one (hgd : Region.wanted op (yielded zs a.tmps) = true) (ty : TypeId) (x : Operand) (ho : op.op = .load ty x)
    (p : Addr) (hx : a.eval x = .pointer (some p)) (v : Value) {d : TypeDesc} (hc : ∀ w', C w' → w'.cell? p = some v)
    (hu : P.underlying ty = some d) (hd : d.isRow = false)
    (h : wpQuiet P zs C Q rest (a.put op.dst v)) : wpQuiet P zs C Q (op :: rest) a := by
  unfold wpQuiet
  rw [if_pos hgd]
  refine ⟨v, fun w' hw' => ?_, h⟩
  unfold Oper.quietAt execOp
  simp only [ho, hx, Instr.loadAt, Instr.sureAddr, Sem.run_bind, Sem.run_pure, Result.andThen_ok, run_loadVar_one w' p ty v d (hc w' hw') hu hd, Oper.quietUpon]
  trivial
/-- a part's bytes are told as a text, in a class of worlds -/
theorem wpQuiet_bytes_mid (hgd : Region.wanted op (yielded zs a.tmps) = true) (src dst e : TypeId) (x : Operand) (ho : op.op = .convert src dst x) (b o n cap : Nat) (l : List Int)
    (hx : a.eval x = .slice (some ⟨b, o, none⟩) n cap) (hs : P.underlying src = some (.slice e)) (he : P.underlying e = some (.int .u8)) (hd : P.underlying dst = some .string)
    (hc : ∀ w', C w' → w'.rangeAt b o (ints .u8 l)) (hn : n = l.length) (h : wpQuiet P zs C Q rest (a.put op.dst (.string (bs l)))) : wpQuiet P zs C Q (op :: rest) a := by
  unfold wpQuiet
  rw [if_pos hgd]
  refine ⟨.string (bs l), fun w' hw' => ?_, h⟩
  unfold Oper.quietAt execOp
  simp only [ho, hx, Sem.run_bind, run_bytes_mid (P := P) (w := w') src dst e b o n cap l hs he hd (hc w' hw') hn, Result.andThen_ok, Sem.run_pure, Oper.quietUpon]
  trivial
end
section
variable {P : Program} {ops : Array Oper} {rest : List Oper} {o : Oper} {a : Act} {w : World} {Q : Exit → Act → World → Prop}
theorem run_copy_string_cut {P : Program} (w : World) (dT sT ty elem : TypeId) (g o dLen dCap : Nat) (s : ByteArray) (cur : Array Value) (t : TypeId)
    (hu : P.underlying dT = some (.slice elem)) (hs : (P.info? elem).map (·.size) = some 1) (hg : w.heap[g]? = some (.cells cur t (0, 0))) (hle : dLen ≤ s.size) (hfit : o + dLen ≤ cur.size) :
    (Builtin.copy_ #[dT, sT] ty #[.slice (some ⟨g, o, none⟩) dLen dCap, .string s]).run P w =
      .ok (goInt dLen) (w.setRow g (cur.toList.take o ++ ints .u8 ((is s).take dLen) ++ cur.toList.drop (o + dLen)).toArray) := by
  have e1 : List.take dLen (List.map (fun b : UInt8 => Value.int IntKind.u8 (b.toNat : Int)) s.data.toList) = ints .u8 ((is s).take dLen) := by
    simp [ints, is, List.map_take, Function.comp_def]
  have hlen : (ints .u8 ((is s).take dLen)).length = dLen := by rw [ints_length, List.length_take, is_length]; omega
  have hst := run_storeCells_at P g o t (ints .u8 ((is s).take dLen)) 0 cur w hg (by rw [hlen]; simpa using hfit) (fun v hv => by
    simp only [ints, List.mem_map] at hv
    obtain ⟨n, _, rfl⟩ := hv
    rfl)
  have hmin : Nat.min s.size dLen = dLen := Nat.min_eq_right hle
  rw [hlen] at hst
  simp only [Nat.add_zero] at hst
  cases hq : P.info? elem with
  | none => simp [hq] at hs
  | some i =>
    simp [Builtin.copy_, run_underlying hu, Builtin.lenOf, Builtin.firstCells, sizeOf, typeInfo, hq, hmin]
    rw [e1, hst]
    simp [Result.andThen]
/-- the first bytes of a text are copied over a part of a block -/
theorem wpList_copy_part (hgd : o.guard = none) (d s : Operand) (dT sT elem : TypeId) (ho : o.op = .call { callee := .builtin .copy, args := #[d, s], argTypes := #[dT, sT] })
    (g off dLen dCap : Nat) (hd : a.eval d = .slice (some ⟨g, off, none⟩) dLen dCap) (t : ByteArray) (hx : a.eval s = .string t) {ty : TypeId} {old : List Value} (hg : Blk w g ty old) (new : List Value) (x y z : List Value)
    (hold : old = x ++ (y ++ z)) (hnew : new = x ++ (ints .u8 ((is t).take dLen) ++ z))
    (hu : P.underlying dT = some (.slice elem)) (hs : (P.info? elem).map (·.size) = some 1) (hle : dLen ≤ t.size) (hxl : off = x.length) (hyl : dLen = y.length)
    (h : wpList P ops Q rest (a.put o.dst (goInt dLen)) (w.setRow g new.toArray)) : wpList P ops Q (o :: rest) a w :=
  wpList_plain hgd fun _ hK => by
    subst hold hnew
    have hr := run_copy_string_cut (P := P) w dT sT o.type elem g off dLen dCap t (x ++ (y ++ z)).toArray ty hu hs hg hle (by subst hxl hyl; simp)
    have e : ((x ++ (y ++ z)).toArray.toList.take off ++ ints .u8 ((is t).take dLen) ++ (x ++ (y ++ z)).toArray.toList.drop (off + dLen)).toArray = (x ++ (ints .u8 ((is t).take dLen) ++ z)).toArray := by
      subst hxl hyl
      rw [List.toList_toArray, take_mid, drop_mid, List.append_assoc]
    rw [e] at hr
    unfold Oper.wp
    simp [execOp, ho, resolve, invoke, builtin, hd, hx, hr, Result.andThen]
    exact hK _ _ h
/-- a new variable, where so many blocks are -/
theorem wpList_alloc_n (hgd : o.guard = none) (t : TypeId) (ho : o.op = .alloc t) (n : Nat) (hn : w.heap.size = n) (cells : Array Value)
    (hrun : (Instr.alloc t true (.tuple #[])).run P w = .ok (.pointer (some ⟨w.heap.size, 0, none⟩)) (w.alloc (.cells cells t)))
    (h : wpList P ops Q rest (a.put o.dst (.pointer (some ⟨n, 0, none⟩))) (w.alloc (.cells cells t))) : wpList P ops Q (o :: rest) a w :=
  wpList_plain hgd fun _ hK => by
    subst hn
    unfold Oper.wp execOp
    simp only [ho, Sem.run_bind, hrun, Result.andThen_ok]
    exact hK _ _ h
/-- a part of a block is written -/
theorem wpList_store_part (hgd : o.guard = none) (ty : TypeId) (p v : Operand) (ho : o.op = .store ty p v)
    (g off : Nat) (hx : a.eval p = .pointer (some ⟨g, off, none⟩)) (cs : List Value) (hy : a.eval v = .agg cs.toArray) {t : TypeId} (x y z : List Value) (hg : Blk w g t (x ++ (y ++ z)))
    (hxl : off = x.length) (hyl : y.length = cs.length) (hi : (P.info? ty).map (·.size) = some cs.length) (h1 : cs.toArray.all (·.oneCell') = true)
    (h : ∀ w', Blk w' g t (x ++ (cs ++ z)) → Below g w w' → w' = w.setCells g off cs → wpList P ops Q rest (a.put o.dst undef) w') : wpList P ops Q (o :: rest) a w := by
  have hth : w.there g off cs.toArray.size := fun j hj => by
    refine ⟨?_, hg.free _⟩
    rw [hg.cell]
    subst hxl
    have : x.length + j < (x ++ (y ++ z)).length := by simp at hj ⊢; omega
    rw [List.getElem?_eq_getElem this]
    rfl
  refine wpList_store_mid hgd ty p v ho g off cs.toArray hx hy hth (by simpa using hi) h1 ?_
  refine h _ ?_ (below_setCells (Nat.le_refl _) _ _ _ (Below.refl _ _)) (by simp)
  subst hxl
  exact setCells_part y cs x z w hg hyl
end
section
variable {P : Program}
theorem results_cells2 {fn : Func} {p q : Tmp} {ty uy : TypeId} (h : fn.results = #[.cell p ty, .cell q uy]) (tmps : Array Value) (w : World) (g g' : Nat)
    (hp : tmps.getD p undef = .pointer (some ⟨g, 0, none⟩)) (hq : tmps.getD q undef = .pointer (some ⟨g', 0, none⟩)) {t t' : TypeId} {cs cs' : List Value} {d d' : TypeDesc} (hg : Blk w g t cs) (hg' : Blk w g' t' cs')
    (hu : P.underlying ty = some d) (hd : (match d with | .struct _ | .array _ _ => true | _ => false) = true) (hi : (P.info? ty).map (·.size) = some cs.length)
    (hu' : P.underlying uy = some d') (hd' : (match d' with | .struct _ | .array _ _ => true | _ => false) = true) (hi' : (P.info? uy).map (·.size) = some cs'.length) :
    (results fn tmps).run P w = .ok (.tuple #[.agg cs.toArray, .agg cs'.toArray]) w := by
  have hp' : tmps[p]?.getD undef = .pointer (some ⟨g, 0, none⟩) := by simpa using hp
  have hq' : tmps[q]?.getD undef = .pointer (some ⟨g', 0, none⟩) := by simpa using hq
  simp [results, h, hp', hq', asAddr, run_loadVar_row w g t ty cs.toArray (0, 0) d hg hu hd (by simpa using hi), run_loadVar_row w g' t' uy cs'.toArray (0, 0) d' hg' hu' hd' (by simpa using hi')]
theorem results_cell_tmp {fn : Func} {p q : Tmp} {ty : TypeId} (h : fn.results = #[.cell p ty, .tmp q]) (tmps : Array Value) (w : World) (g : Nat)
    (hp : tmps.getD p undef = .pointer (some ⟨g, 0, none⟩)) (v : Value) (hq : tmps.getD q undef = v) {t : TypeId} {cs : List Value} {d : TypeDesc} (hg : Blk w g t cs)
    (hu : P.underlying ty = some d) (hd : (match d with | .struct _ | .array _ _ => true | _ => false) = true) (hi : (P.info? ty).map (·.size) = some cs.length) :
    (results fn tmps).run P w = .ok (.tuple #[.agg cs.toArray, v]) w := by
  have hp' : tmps[p]?.getD undef = .pointer (some ⟨g, 0, none⟩) := by simpa using hp
  have hq' : tmps[q]?.getD undef = v := by simpa using hq
  simp [results, h, hp', hq', asAddr, run_loadVar_row w g t ty cs.toArray (0, 0) d hg hu hd (by simpa using hi)]
/-- a block made where so many lie -/
theorem Blk.newAt (w : World) (n : Nat) (hn : w.heap.size = n) (t : TypeId) {c : Array Value} (vs : List Value) (hc : c = vs.toArray) : Blk (w.alloc (.cells c t)) n t vs := by
  subst hn; exact Blk.new' w t vs hc
end
end Go.Proofs.Ytleofmeejjikmaa
