/- Files in their cells: told apart, written one by one; rows appended to an empty slice. -/
import Derived.Test.YtgjbnpghhelpoaaFA
import Derived.ArgAppend
import Derived.Test.YtgjbnpghhelpoaaFB
import Derived.Test.YtgjbnpghhelpoaaG1
import Derived.Test.YtgjbnpghhelpoaaG3
namespace Go.Proofs.Ytgjbnpghhelpoaa
open Go.RowKit
set_option linter.unusedVariables false

section
variable {P : Program} {ops : Array Oper} {rest : List Oper} {o : Oper} {a : Act} {w : World} {Q : Exit → Act → World → Prop}
/-- rows are appended to an empty slice that has no room -/
theorem wpList_append_empty (hgd : o.guard = none) (s x : Operand) (t : TypeId) (ho : o.op = .call { callee := .builtin .append, args := #[s, x], argTypes := #[t, t] })
    (e : TypeId) (i : TypeInfo) (z : Value) (k bytes : Nat) (ht : P.underlying t = some (.slice e)) (hi : P.info? e = some i) (hz : i.zero = some z) (hsize : i.size = k) (hby : i.bytes = bytes) (hzs : z.cells.size = k) (hk : 0 < k)
    (B : Nat) (hs : a.eval s = .slice (some ⟨B, 0, none⟩) 0 0) (vx : Value) (news : List (List Value)) (hx : a.eval x = vx) (hnew : Sl w k vx news) (h1 : ∀ r ∈ news, ∀ u ∈ r, u.oneCell' = true)
    (h0 : 0 < news.length) (h63 : news.length ≤ maxLen) (hbytes : news.length * bytes ≤ 140737488355328)
    (h : ∀ v' w', OwnR w' w.heap.size e k v' news → Below w.heap.size w w' → wpList P ops Q rest (a.put o.dst v') w') : wpList P ops Q (o :: rest) a w := by
  obtain ⟨k0, p, c, hv, hcell⟩ := hnew
  obtain ⟨ad, rfl, _⟩ := hcell 0 news[0] (List.getElem?_eq_getElem h0)
  subst hv
  refine wpList_append_arg w hgd s x t ho e i z k bytes ht hi hz hsize hby hzs hk B 0 0 0 [] hs (by simp) (fun j u hj => by simp at hj) ad news.length c news.flatten hx (flat_len k0) (fun j u hu => ?_) (fun u hu => ?_) (fun hr => by omega) (by omega) (by simpa using hbytes) (fun hr => by omega) (fun _ v' w' q1 q2 => ?_)
  · obtain ⟨i', r, m, hr, hm, rfl, _⟩ := flat_from hk k0 hu
    obtain ⟨a', ha, _, hc⟩ := hcell i' r hr
    cases ha
    exact hc m u hm
  · obtain ⟨r, hr, hur⟩ := List.mem_flatten.1 hu
    exact h1 r hr u hur
  · refine h v' w' ⟨k0, ?_⟩ (Below.grown (Below.refl _ _) q2 (Nat.le_refl _) (fun k hk => by cases hk))
    rw [Nat.zero_add, List.nil_append] at q1
    exact q1
end
theorem flat_cut {k : Nat} {rows : List (List Value)} (hk : ∀ r ∈ rows, r.length = k) {i : Nat} (h : i < rows.length) :
    rows.flatten = (rows.take i).flatten ++ (rows[i] ++ (rows.drop (i + 1)).flatten) ∧ (rows.take i).flatten.length = i * k ∧ rows[i].length = k ∧ ∀ r, (rows.set i r).flatten = (rows.take i).flatten ++ (r ++ (rows.drop (i + 1)).flatten) := by
  refine ⟨?_, ?_, hk _ (List.getElem_mem h), fun r => ?_⟩
  · conv => lhs; rw [← List.take_append_drop i rows, List.drop_eq_getElem_cons h]
    rw [List.flatten_append, List.flatten_cons]
  · rw [flat_len (fun r hr => hk r (List.mem_of_mem_take hr)), List.length_take, Nat.min_eq_left (by omega)]
  · rw [List.set_eq_take_append_cons_drop, if_pos h, List.flatten_append, List.flatten_cons]
theorem rowsF_set (l : List (List Nat × List Nat)) (i : Nat) (f : List Nat × List Nat) : rowsF (l.set i f) = (rowsF l).set i (rowF f) := by unfold rowsF; rw [List.map_set]
theorem rowsF_two {l : List (List Nat × List Nat)} : ∀ r ∈ rowsF l, r.length = 2 := fun r hr => by
  simp only [rowsF, List.mem_map] at hr
  obtain ⟨q, _, rfl⟩ := hr
  rfl
theorem rowsF_one {l : List (List Nat × List Nat)} : ∀ r ∈ rowsF l, ∀ u ∈ r, u.oneCell' = true := fun r hr u hu => by
  simp only [rowsF, List.mem_map] at hr
  obtain ⟨q, _, rfl⟩ := hr
  simp [rowF] at hu
  rcases hu with rfl | rfl <;> rfl
/-- cells of files, a row's own place told -/
theorem file_cut (l : List (List Nat × List Nat)) (rest : List Value) {i : Nat} (h : i < l.length) :
    ∃ X Z : List Value, (rowsF l).flatten ++ rest = X ++ (rowF (l.getD i noF) ++ Z) ∧ X.length = i * 2 ∧ ∀ q, (rowsF (l.set i q)).flatten ++ rest = X ++ (rowF q ++ Z) := by
  have hr : i < (rowsF l).length := by rw [rowsF_len]; exact h
  obtain ⟨h1, h2, h3, h4⟩ := flat_cut rowsF_two hr
  have e : (rowsF l)[i] = rowF (l.getD i noF) := by
    have := rowsF_at h
    rw [List.getElem?_eq_getElem hr] at this
    exact Option.some.inj this
  refine ⟨_, (List.drop (i + 1) (rowsF l)).flatten ++ rest, ?_, h2, fun q => ?_⟩
  · rw [h1, e, List.append_assoc, List.append_assoc]
  · rw [rowsF_set, h4, List.append_assoc, List.append_assoc]
theorem file_load {W : World} {g : Nat} {m : List (List Nat × List Nat)} {rest : List Value} (h : Blk W g 40 ((rowsF m).flatten ++ rest)) {j : Nat} (hj : j < m.length) : ∀ k v, (rowF (m.getD j noF))[k]? = some v → W.cell? ((⟨g, j * 2, none⟩ : Addr).add k) = some v := fun k v hv => by
  obtain ⟨a, e, hc⟩ := (sl_blkS (cap := 0) rowsF_two h).row (rowsF_at hj)
  cases e
  have := hc k v hv
  rw [Addr.add_mid] at this
  simpa using this
theorem info_file : (Try.prog.info? 40).map (fun i => (i.zero, i.size, i.bytes)) = some (some (.agg #[.string ⟨#[]⟩, .string ⟨#[]⟩]), 2, 32) := by kernel_rfl
theorem made_pair (n : Nat) (a b : Value) : (madeCells #[a, b] (n * 2)).toList = (List.replicate n [a, b]).flatten := by
  have hk : ∀ r ∈ List.replicate n [a, b], r.length = 2 := fun r hr => by rw [List.eq_of_mem_replicate hr]; rfl
  apply List.ext_getElem?
  intro j
  by_cases hj : j < n * 2
  · have h1 : (List.replicate n [a, b])[j / 2]? = some [a, b] := by rw [List.getElem?_replicate, if_pos (by omega)]
    have h2 : ([a, b] : List Value)[j % 2]? = some (if j % 2 = 0 then a else b) := by
      rcases (show j % 2 = 0 ∨ j % 2 = 1 by omega) with e | e <;> rw [e] <;> rfl
    have h3 := flat_at hk h1 h2
    rw [show j / 2 * 2 + j % 2 = j by omega] at h3
    rw [h3]
    have h4 : (madeCells #[a, b] (n * 2)).toList[j]? = some ((#[a, b] : Array Value)[j % 2]!) := by
      simp [madeCells, hj]
    rw [h4]
    rcases (show j % 2 = 0 ∨ j % 2 = 1 by omega) with e | e <;> rw [e] <;> rfl
  · rw [List.getElem?_eq_none (by simp [madeCells]; omega), List.getElem?_eq_none (by rw [flat_len hk, List.length_replicate]; omega)]
theorem make_files (n : Nat) (h : n ≤ 1000000) (w : World) : (Instr.makeSlice 22 (.int .i64 (n : Int)) (.int .i64 (n : Int))).run Try.prog w = .ok (.slice (some ⟨w.heap.size, 0, none⟩) n n) (w.alloc (.cells (rowsF (List.replicate n noF)).flatten.toArray 40)) := by
  obtain ⟨i0, hi0, hz0, hz1, hz2⟩ := info_parts2 info_file
  have hr := run_make (P := Try.prog) w 22 40 i0 (.agg #[.string ⟨#[]⟩, .string ⟨#[]⟩]) Try.underlying22 hi0 hz0 .i64 .i64 n n (by omega) (Int.le_refl _) (by rw [hz2]; omega) (by omega)
  simp only [Int.toNat_natCast, hz1] at hr
  have e : madeCells (Value.agg #[.string ⟨#[]⟩, .string ⟨#[]⟩]).cells (n * 2) = (rowsF (List.replicate n noF)).flatten.toArray := by
    apply Array.ext'
    rw [show (Value.agg #[.string ⟨#[]⟩, .string ⟨#[]⟩]).cells = #[.string ⟨#[]⟩, .string ⟨#[]⟩] from rfl, made_pair]
    unfold rowsF
    rw [List.map_replicate]
    rfl
  rw [hr, e]
/-- the first files are written -/
def wroteF (n : Nat) (pre : List (List Nat × List Nat)) : List (List Nat × List Nat) := pre ++ List.replicate (n - pre.length) noF
theorem wroteF_len {n : Nat} {pre : List (List Nat × List Nat)} (h : pre.length ≤ n) : (wroteF n pre).length = n := by unfold wroteF; rw [List.length_append, List.length_replicate]; omega
theorem wroteF_set {n : Nat} {pre : List (List Nat × List Nat)} (h : pre.length < n) (f : List Nat × List Nat) : (wroteF n pre).set pre.length f = wroteF n (pre ++ [f]) := by
  unfold wroteF
  rw [List.set_append_right _ _ (Nat.le_refl _), Nat.sub_self]
  obtain ⟨k, hk⟩ : ∃ k, n - pre.length = k + 1 := ⟨n - pre.length - 1, by omega⟩
  rw [hk, List.length_append, List.length_singleton, show n - (pre.length + 1) = k by omega, List.replicate_succ, List.append_assoc]
  rfl
theorem wroteF_all {n : Nat} {pre : List (List Nat × List Nat)} (h : pre.length = n) : wroteF n pre = pre := by unfold wroteF; rw [h, Nat.sub_self]; simp
end Go.Proofs.Ytgjbnpghhelpoaa
namespace Go.Proofs.Ytgjbnpghhelpoaa
open Go.RowKit
set_option linter.unusedVariables false

theorem part_drop {ns : List (List Nat)} {zs : List Int} {j : Nat} (h1 : j < ns.length) (h2 : j < zs.length) (t : List Nat) :
    partF (ns.drop j) (zs.drop j) t = if 0 ≤ zs.getD j 0 ∧ zs.getD j 0 ≤ (t.length : Int) then (partF (ns.drop (j + 1)) (zs.drop (j + 1)) (t.drop (zs.getD j 0).toNat)).map ((ns.getD j [], t.take (zs.getD j 0).toNat) :: ·) else none := by
  have e1 : ns.drop j = ns.getD j [] :: ns.drop (j + 1) := by rw [List.drop_eq_getElem_cons h1, List.getD_eq_getElem?_getD, List.getElem?_eq_getElem h1]; rfl
  have e2 : zs.drop j = zs.getD j 0 :: zs.drop (j + 1) := by rw [List.drop_eq_getElem_cons h2, List.getD_eq_getElem?_getD, List.getElem?_eq_getElem h2]; rfl
  rw [e1, e2, partF]
theorem part_end {ns : List (List Nat)} {zs : List Int} (h : ns.length = zs.length) (t : List Nat) : partF (ns.drop ns.length) (zs.drop ns.length) t = if t.length = 0 then some [] else none := by
  rw [List.drop_of_length_le (Nat.le_refl _), List.drop_of_length_le (by omega), partF]
theorem partR_none {ns : List (List Nat)} {zs : List Int} {s : List Nat} (h : partF ns zs s = none) : partR ns zs s = ([], 1) := by unfold partR; rw [h]
theorem partR_some {ns : List (List Nat)} {zs : List Int} {s : List Nat} {m : List (List Nat × List Nat)} (h : partF ns zs s = some m) : partR ns zs s = if checkF m = 0 then (m, 0) else ([], checkF m) := by unfold partR; rw [h]
theorem partF_ne {ns : List (List Nat)} {zs : List Int} {s : List Nat} (h : ns.length ≠ zs.length) : partF ns zs s = none := by
  cases hp : partF ns zs s with
  | none => rfl
  | some m => exact absurd (part_lens hp).1 h
/-- files and an error -/
def PartRet (r : List (List Nat × List Nat) × Nat) (w : World) (e : Ending) (w' : World) : Prop :=
  ∃ p c, e = .returned (.tuple #[.slice p r.1.length c, .int .i64 (r.2 : Int)]) ∧ Sl w' 2 (.slice p r.1.length c) (rowsF r.1) ∧ Below w.heap.size w w'
theorem partRet_nil {n : Nat} {w w' : World} {e : Ending} (he : e = .returned (.tuple #[.slice none 0 0, .int .i64 (n : Int)])) (hb : Below w.heap.size w w') : PartRet ([], n) w e w' := ⟨none, 0, he, Sl.none 2, hb⟩
set_option maxRecDepth 100000 in
set_option maxHeartbeats 1000000 in
theorem f_take_no (T : Nat) (t : ByteArray) (z : Int) (w : World) (hT : Blk w T 9 [.string t]) (h : ¬ (0 ≤ z ∧ z ≤ (t.size : Int))) :
    Calls Try.prog 26 #[.int .i64 z, .pointer (some ⟨T, 0, none⟩)] w fun e w' => e = .returned (.tuple #[.string ⟨#[]⟩, .bool false]) ∧ w' = w := by
  have c1 := hT.cell 0
  simp only [List.getElem?_cons_zero] at c1
  clear hT
  by_cases h0 : z < 0
  · clear h
    go_enter Try.func26, Try.ntmps26
    go_wp2
    go_ret2
    exact ⟨rfl, rfl⟩
  · have g1 : (t.size : Int) < z := by omega
    clear h
    go_enter Try.func26, Try.ntmps26
    go_wp2
    go_ret2
    exact ⟨rfl, rfl⟩
set_option maxRecDepth 100000 in
set_option maxHeartbeats 1000000 in
theorem f_take_yes (T : Nat) (t : ByteArray) (k : Nat) (w : World) (hT : Blk w T 9 [.string t]) (h : k ≤ t.size) :
    Calls Try.prog 26 #[.int .i64 (k : Int), .pointer (some ⟨T, 0, none⟩)] w fun e w' => e = .returned (.tuple #[.string (tx ((sl t).take k)), .bool true]) ∧ w' = w.setCell ⟨T, 0, none⟩ (.string (tx ((sl t).drop k))) := by
  have c1 := hT.cell 0
  have f1 := hT.free 0
  simp only [List.getElem?_cons_zero] at c1
  have g0 : ¬ (k : Int) < 0 := by omega
  have g1 : ¬ (t.size : Int) < (k : Int) := by omega
  have g2 : (k : Int) ≤ (t.size : Int) := by omega
  rw [← head_tx, ← tail_tx]
  clear hT
  go_enter Try.func26, Try.ntmps26
  go_wp2
  go_ret2
  exact ⟨rfl, rfl⟩
set_option maxRecDepth 100000 in
set_option maxHeartbeats 4000000 in
theorem f_Part (ns : List (List Nat)) (zs : List Int) (s : ByteArray) (p q : Option Addr) (c d : Nat) (w : World) (r : List (List Nat × List Nat) × Nat) (hr : partR ns zs (sl s) = r) (hn : ns.length ≤ 1000) (hz : zs.length ≤ 1000) (hy : ∀ x ∈ ns, Bys x)
    (hN : Sl w 1 (.slice p ns.length c) (rowsS ns)) (hZ : Sl w 1 (.slice q zs.length d) (rowsZ zs)) :
    Calls Try.prog 19 #[.slice p ns.length c, .slice q zs.length d, .string s] w (PartRet r w) := by
  have HN := Lib.hid hN
  have HZ := Lib.hid hZ
  have HR := Lib.hid hr
  have HY := Lib.hid hy
  clear hN hZ hr hy
  by_cases hlen : ns.length = zs.length
  · rw [← hlen] at HZ ⊢
    have HL := Lib.hid hlen
    obtain ⟨T, hT⟩ : ∃ T, w.heap.size = T := ⟨_, rfl⟩
    have hmk := make_files ns.length (by omega)
    have k1 := ((Blk.new' w 9 (c := #[.string ⟨#[]⟩]) [.string ⟨#[]⟩] rfl).set 0 (.string s)).alloc (.cells (rowsF (List.replicate ns.length noF)).flatten.toArray 40)
    have k1' := (Blk.new' w 9 (c := #[.string s]) [.string s] rfl).alloc (.cells (rowsF (List.replicate ns.length noF)).flatten.toArray 40)
    have k2 := Blk.newAt (w.alloc (.cells #[.string s] 9)) (w.heap.size + 1) (by simp) 40 (c := (rowsF (List.replicate ns.length noF)).flatten.toArray) _ rfl
    have kb := ((Below.refl w.heap.size w).alloc (Nat.le_refl _) (.cells #[.string s] 9)).alloc (by simp) (.cells (rowsF (List.replicate ns.length noF)).flatten.toArray 40)
    have e0 : List.replicate ns.length noF = wroteF ns.length [] := by simp [wroteF]
    rw [e0] at k1' k2 kb
    simp only [e0] at hmk
    have K1 := Lib.hid k1'
    have K2 := Lib.hid k2
    have KB := Lib.hid kb
    clear k1 k1' k2 kb hlen
    generalize hF0 : (rowsF (wroteF ns.length [])).flatten = F0 at *
    have HF0 := Lib.hid hF0
    clear hF0 e0
    go_enter Try.func19, Try.ntmps19
    go_wp2
    rw [hT] at K1 K2
    have HTE := Lib.hid hT
    clear hmk
    go_loopw [28] (fun i wr => ∃ (j : Nat) (pre : List (List Nat × List Nat)) (t : ByteArray), j ≤ ns.length ∧ i = .int .i64 (j : Int) ∧ pre.length = j ∧ Blk wr T 9 [.string t] ∧ Blk wr (T + 1) 40 (rowsF (wroteF ns.length pre)).flatten ∧
      partF ns zs (sl s) = (partF (ns.drop j) (zs.drop j) (sl t)).map (pre ++ ·) ∧ (∀ f ∈ pre, Bys f.1) ∧ Below w.heap.size w wr) (fun i _ => ns.length - (intOf i).toNat)
    case atStart => exact ⟨0, [], s, by omega, rfl, rfl, K1.out, by rw [HF0.out]; exact K2.out, by simp, (fun f hf => by cases hf), KB.out⟩
    case round =>
      obtain ⟨j, pre, t, hj, rfl, hpl, bT, bG, hE, hpy, gb⟩ := hrel
      clear K1 K2 KB
      have HE := Lib.hid hE
      have HPY := Lib.hid hpy
      clear hE hpy
      by_cases hlt : j < ns.length
      · obtain ⟨a, rfl, hc1⟩ := SlS.cell (HN.out.below gb) hlt
        obtain ⟨b, rfl, hc2⟩ := SlZ.cell (l := zs) (j := j) (HZ.out.below gb) (by rw [← HL.out]; exact hlt)
        have d1 : (j : Int) < (ns.length : Int) := by omega
        have hpd := part_drop hlt (by rw [← HL.out]; exact hlt) (sl t)
        have hnm : Bys (ns.getD j []) := HY.out _ (by rw [List.getD_eq_getElem?_getD, List.getElem?_eq_getElem hlt]; exact List.getElem_mem _)
        have hNc : ∀ wx, Below w.heap.size w wx → wx.cell? (a.add j) = some (.string (tx (ns.getD j []))) := fun wx hb => by
          obtain ⟨a', e, h⟩ := SlS.cell (HN.out.below hb) hlt
          cases e
          exact h
        rw [sl_len] at hpd
        have HPD := Lib.hid hpd
        have HNC := Lib.hid hNc
        have HNM := Lib.hid hnm
        clear hpd hNc hnm hc1
        obtain ⟨z, hz⟩ : ∃ z, zs.getD j 0 = z := ⟨_, rfl⟩
        rw [hz] at hc2 HPD
        by_cases hzz : 0 ≤ z ∧ z ≤ (t.size : Int)
        · obtain ⟨k, rfl⟩ : ∃ k : Nat, z = (k : Int) := ⟨z.toNat, by omega⟩
          have hk : k ≤ t.size := by omega
          have HTK := Lib.hid (f_take_yes T t k wr bT hk)
          have HE2 : Hid (partF ns zs (sl s) = (partF (ns.drop (j + 1)) (zs.drop (j + 1)) ((sl t).drop k)).map (pre ++ [(ns.getD j [], (sl t).take k)] ++ ·)) := Lib.hid (by
            rw [HE.out, HPD.out, if_pos hzz, Option.map_map, Int.toNat_natCast]
            congr 1
            funext y
            simp)
          have bT2 := bT.set 0 (.string (tx ((sl t).drop k)))
          have bG2 := bG.other (a := ⟨T, 0, none⟩) (show T ≠ T + 1 by omega) (.string (tx ((sl t).drop k)))
          have gb2 := gb.setCell (p := ⟨T, 0, none⟩) (show w.heap.size ≤ T by rw [HTE.out]; exact Nat.le_refl _) (.string (tx ((sl t).drop k)))
          obtain ⟨w2, hw2⟩ : ∃ w2, wr.setCell ⟨T, 0, none⟩ (.string (tx ((sl t).drop k))) = w2 := ⟨_, rfl⟩
          rw [hw2] at bT2 bG2 gb2 HTK
          have HPL := Lib.hid hpl
          obtain ⟨X, Z, hcu, hXl, hset⟩ := file_cut (wroteF ns.length pre) [] (i := j) (by rw [wroteF_len (by omega)]; exact hlt)
          have hset := hset (ns.getD j [], (sl t).take k)
          rw [List.append_nil] at hcu hset
          have hst : (rowsF (wroteF ns.length (pre ++ [(ns.getD j [], (sl t).take k)]))).flatten = X ++ (rowF (ns.getD j [], (sl t).take k) ++ Z) := by
            rw [← hset, ← wroteF_set (by omega), hpl]
          rw [hcu] at bG2
          obtain ⟨O, hO⟩ : ∃ O, rowF ((wroteF ns.length pre).getD j noF) = O := ⟨_, rfl⟩
          have hOl : O.length = 2 := by rw [← hO]; rfl
          rw [hO] at bG2
          have hfr : rowF (ns.getD j [], (sl t).take k) = [.string (tx (ns.getD j [])), .string (tx ((sl t).take k))] := rfl
          have c3 := HNC.out w2 gb2
          have HST := Lib.hid hst
          have HFR := Lib.hid hfr
          have BT2 := Lib.hid bT2
          have BG2 := Lib.hid bG2
          have GB2 := Lib.hid gb2
          have HOL := Lib.hid hOl
          have HXL := Lib.hid hXl
          have hrest : sl (tx ((sl t).drop k)) = (sl t).drop k := sl_tx ((sl_bys t).drop k)
          have HRS := Lib.hid hrest
          clear hst hfr hset hcu hO bT2 bG2 gb2 hw2 bT bG gb hzz hk hz hOl hXl hrest hpl HPD
          generalize tx (ns.getD j []) = NM at *
          generalize tx ((sl t).take k) = DT at *
          generalize hRT : tx ((sl t).drop k) = RT at *
          have h1 : ([Value.string NM, .string DT]).toArray.all (·.oneCell') = true := by simp [Value.oneCell']
          go_wp2_with fail
          (with_reducible refine HTK.out.mono ?_)
          rintro e w9 ⟨rfl, rfl⟩
          go_wp2_with (refine wpList_store_part rfl 40 _ _ rfl (T + 1) (j * 2) rfl [.string NM, .string DT] rfl X O Z BG2.out HXL.out.symm (by rw [HOL.out]; rfl) (by rw [size_file]; rfl) h1 ?_; intro w7 hb7 hbel7 hw7; have HB7 := Lib.hid hb7; have HW7 := Lib.hid hbel7; clear hb7 hbel7 hw7)
          go_roundw
          case rel =>
            refine ⟨j + 1, pre ++ [(ns.getD j [], (sl t).take k)], RT, by omega, by go_num, by rw [List.length_append, HPL.out]; rfl, BT2.out.below HW7.out (by omega), ?_, ?_, ?_, GB2.out.trans (HW7.out.mono (by rw [HTE.out]; omega))⟩
            · rw [HST.out, HFR.out]; exact HB7.out
            · rw [HRS.out]; exact HE2.out
            · intro f hf
              rcases List.mem_append.1 hf with hf | hf
              · exact HPY.out f hf
              · rw [List.mem_singleton.1 hf]; exact HNM.out
          case measure => simp [intOf]; omega
        · have HTK := Lib.hid (f_take_no T t z wr bT hzz)
          have e0 : r = ([], 1) := by rw [← HR.out, partR_none (by rw [HE.out, HPD.out, if_neg hzz]; rfl)]
          subst e0
          have GB := Lib.hid gb
          clear gb bT bG hzz HPD hz
          go_wp2_with fail
          (with_reducible refine HTK.out.mono ?_)
          rintro e w9 ⟨rfl, rfl⟩
          go_wp2
          go_ret2
          exact partRet_nil rfl GB.out
      · obtain rfl : j = ns.length := by omega
        have hpe := part_end HL.out (sl t)
        rw [sl_len] at hpe
        have c1 := bT.cell 0
        simp only [List.getElem?_cons_zero] at c1
        by_cases h0 : t.size = 0
        · have t1 := tx_none h0
          have hsm : partF ns zs (sl s) = some pre := by rw [HE.out, hpe, if_pos h0]; simp
          have hpr := partR_some hsm
          rw [HR.out] at hpr
          rw [wroteF_all hpl] at bG
          have sP := sl_blkS (k := 2) (cap := ns.length) (rest := []) rowsF_two (by rw [List.append_nil]; exact bG)
          rw [rowsF_len, hpl] at sP
          obtain ⟨n, hn0⟩ : ∃ n, checkF pre = n := ⟨_, rfl⟩
          have HCK := Lib.hid (f_Check pre (some ⟨T + 1, 0, none⟩) ns.length n wr hn0 HPY.out (by omega) (by rw [hpl]; exact sP))
          rw [hpl] at HCK
          have HPR := Lib.hid hpr
          have SP := Lib.hid sP
          have GB := Lib.hid gb
          have HN0 := Lib.hid hn0
          have HPL := Lib.hid hpl
          clear hpe hsm hpr sP gb bT bG h0 hn0 hpl
          by_cases hz0 : n = 0
          · subst hz0
            have e0 : r = (pre, 0) := by rw [HPR.out, if_pos HN0.out]
            subst e0
            go_wp2_with fail
            refine HCK.out.mono ?_
            rintro e w9 ⟨rfl, hb9⟩
            have S9 := Lib.hid (SP.out.below hb9)
            have GB9 := Lib.hid (GB.out.trans (hb9.mono GB.out.size))
            clear hb9
            go_wp2
            go_ret2
            refine ⟨some ⟨T + 1, 0, none⟩, ns.length, ?_, by rw [HPL.out]; exact S9.out, GB9.out⟩
            rw [HPL.out]; rfl
          · have e0 : r = ([], n) := by rw [HPR.out, if_neg (by rw [HN0.out]; exact hz0), HN0.out]
            subst e0
            have g1 : ((n : Int) != 0) = true := by rw [bne_iff_ne]; omega
            have g1' : (n : Int) ≠ 0 := by omega
            go_wp2_with fail
            refine HCK.out.mono ?_
            rintro e w9 ⟨rfl, hb9⟩
            have GB9 := Lib.hid (GB.out.trans (hb9.mono GB.out.size))
            clear hb9
            go_wp2
            go_ret2
            exact partRet_nil rfl GB9.out
        · have t1 := tx_some h0
          have e0 : r = ([], 1) := by rw [← HR.out, partR_none (by rw [HE.out, hpe, if_neg h0]; rfl)]
          subst e0
          have GB := Lib.hid gb
          clear gb bT bG hpe
          go_wp2
          go_ret2
          exact partRet_nil rfl GB.out
  · have g1 : ((ns.length : Int) != (zs.length : Int)) = true := by rw [bne_iff_ne]; omega
    have g1' : (ns.length : Int) ≠ (zs.length : Int) := by omega
    have e0 : r = ([], 1) := by rw [← HR.out, partR_none (partF_ne hlen)]
    subst e0
    clear hlen
    go_enter Try.func19, Try.ntmps19
    go_wp2
    go_ret2
    exact partRet_nil rfl (Below.refl _ _)
section
variable {H : Type} {enc : TypeId × Value → H} {w : World} {base : Nat} {spare : Nat → Bool} {held : Bool}
open Go.ChangeShapes Go.WideShapes in
theorem open_sizes {p0 : Option Addr} {len cap : Nat} {d : DataW H} {p : List MemPlace} (h : DataW.Trod enc Try.prog w base spare held 26 (.slice p0 len cap) d p) :
    ∃ l : List Int, l.length = len ∧ Sl w 1 (.slice p0 len cap) (rowsZ l) ∧ (∀ q ∈ l, (Lit.int .i64 q).wf = true) ∧ len ≤ maxLen := open_nums Try.underlying26 Try.underlying3 (by kernel_rfl) h
end
end Go.Proofs.Ytgjbnpghhelpoaa
namespace Go.Proofs.Ytgjbnpghhelpoaa
open Go.RowKit
set_option linter.unusedVariables false

/-- what the operations of a round come to -/
def prS (base : Nat) (vx : Value) (R : List (List Value)) (a bq : Addr) (n c d j : Nat) (k : Nat) (NM DT t : ByteArray) (b : Bool) (i : Nat) (v : Value) (W : World) : Prop :=
  match i with
  | 0 => v = vx ∧ (b = false → OwnR W base 40 2 vx R)
  | 1 => v = .slice (some a) n c
  | 2 | 7 => v = .int .i64 (j : Int)
  | 3 => v = .pointer (some (a.add j))
  | 4 => v = .string NM
  | 5 => v = .string t
  | 6 => v = .slice (some bq) n d
  | 8 => v = .pointer (some (bq.add j))
  | 9 => v = .int .i64 (k : Int)
  | 10 => v = .string DT
  | 11 => v = .agg #[.string NM, .string DT]
  | 12 => b = false → ∃ D, v = .slice (some ⟨D, 0, none⟩) 1 1 ∧ Blk W D 40 [.string NM, .string DT]
  | 13 | 14 => b = true ∧ OwnR W base 40 2 v (R ++ [[.string NM, .string DT]])
  | _ => True
theorem prS_mono {base : Nat} {vx : Value} {R : List (List Value)} {a bq : Addr} {n c d j : Nat} {k : Nat} {NM DT t : ByteArray} (b : Bool) (i : Nat) (v : Value) (W W' : World) (h : prS base vx R a bq n c d j k NM DT t b i v W) (hb : Below W.heap.size W W') : prS base vx R a bq n c d j k NM DT t b i v W' :=
  match i with
  | 1 | 2 | 3 | 4 | 5 | 6 | 7 | 8 | 9 | 10 | 11 => h
  | 0 => ⟨h.1, fun e => (h.2 e).keep hb⟩
  | 12 => fun e => let ⟨D, h1, h2⟩ := h e; ⟨D, h1, h2.below hb h2.lt⟩
  | 13 | 14 => ⟨h.1, h.2.keep hb⟩
  | _ + 15 => trivial
theorem prS_turn {base : Nat} {vx : Value} {R : List (List Value)} {a bq : Addr} {n c d j : Nat} {k : Nat} {NM DT t : ByteArray} (i : Nat) (v : Value) (W W' : World) (h : prS base vx R a bq n c d j k NM DT t false i v W) : prS base vx R a bq n c d j k NM DT t true i v W' :=
  match i with
  | 1 | 2 | 3 | 4 | 5 | 6 | 7 | 8 | 9 | 10 | 11 => h
  | 0 => ⟨h.1, fun e => by cases e⟩
  | 12 => fun e => by cases e
  | 13 | 14 => by cases h.1
  | _ + 15 => trivial
set_option maxRecDepth 100000 in
set_option maxHeartbeats 4000000 in
theorem fr_Part (ns : List (List Nat)) (zs : List Int) (s : ByteArray) (p q : Option Addr) (c d : Nat) (w : World) (r : List (List Nat × List Nat) × Nat) (hr : partR ns zs (sl s) = r) (hn : ns.length ≤ 1000) (hz : zs.length ≤ 1000) (hy : ∀ x ∈ ns, Bys x)
    (hN : Sl w 1 (.slice p ns.length c) (rowsS ns)) (hZ : Sl w 1 (.slice q zs.length d) (rowsZ zs)) :
    Calls Try.prog 20 #[.slice p ns.length c, .slice q zs.length d, .string s] w (PartRet r w) := by
  obtain ⟨i0, hi0, hz0, hz1, hz2⟩ := info_parts2 info_file
  have HN := Lib.hid hN
  have HZ := Lib.hid hZ
  have HR := Lib.hid hr
  have HY := Lib.hid hy
  clear hN hZ hr hy
  by_cases hlen : ns.length = zs.length
  · rw [← hlen] at HZ ⊢
    have HL := Lib.hid hlen
    have K0 := Lib.hid (OwnR.empty w w.heap.size 40 2 (Nat.le_refl _))
    have KB := Lib.hid ((Below.refl w.heap.size w).alloc (Nat.le_refl _) (.cells #[] 40))
    clear hlen
    go_enter Try.func20, Try.ntmps20
    go_wp2
    go_loopw [2, 8, 9] (fun u v i wr => ∃ (j : Nat) (pre : List (List Nat × List Nat)) (t : ByteArray), j ≤ ns.length ∧ i = .int .i64 (j : Int) ∧ u = .string t ∧ pre.length = j ∧ OwnR wr w.heap.size 40 2 v (rowsF pre) ∧
      partF ns zs (sl s) = (partF (ns.drop j) (zs.drop j) (sl t)).map (pre ++ ·) ∧ (∀ f ∈ pre, Bys f.1) ∧ Below w.heap.size w wr) (fun _ _ i _ => ns.length - (intOf i).toNat)
    case atStart => exact ⟨0, [], s, by omega, rfl, rfl, rfl, K0.out, by simp, (fun f hf => by cases hf), KB.out⟩
    case round =>
      obtain ⟨j, pre, t, hj, rfl, rfl, hpl, go1, hE, hpy, gb⟩ := hrel
      clear K0 KB
      have HE := Lib.hid hE
      have HPY := Lib.hid hpy
      clear hE hpy
      by_cases hlt : j < ns.length
      · obtain ⟨a, rfl, hc1⟩ := SlS.cell (HN.out.below gb) hlt
        obtain ⟨b, rfl, hc2⟩ := SlZ.cell (l := zs) (j := j) (HZ.out.below gb) (by rw [← HL.out]; exact hlt)
        have d1 : (j : Int) < (ns.length : Int) := by omega
        have hpd := part_drop hlt (by rw [← HL.out]; exact hlt) (sl t)
        have hnm : Bys (ns.getD j []) := HY.out _ (by rw [List.getD_eq_getElem?_getD, List.getElem?_eq_getElem hlt]; exact List.getElem_mem _)
        have hNc : ∀ wx, Below w.heap.size w wx → wx.cell? (a.add j) = some (.string (tx (ns.getD j []))) := fun wx hb => by
          obtain ⟨a', e, h⟩ := SlS.cell (HN.out.below hb) hlt
          cases e
          exact h
        have hZc : ∀ wx, Below w.heap.size w wx → wx.cell? (b.add j) = some (.int .i64 (zs.getD j 0)) := fun wx hb => by
          obtain ⟨a', e, h⟩ := SlZ.cell (l := zs) (j := j) (HZ.out.below hb) (by rw [← HL.out]; exact hlt)
          cases e
          exact h
        rw [sl_len] at hpd
        have HPD := Lib.hid hpd
        have HNC := Lib.hid hNc
        have HNM := Lib.hid hnm
        obtain ⟨z, hz⟩ : ∃ z, zs.getD j 0 = z := ⟨_, rfl⟩
        rw [hz] at hc2 HPD
        simp only [hz] at hZc
        have HZC := Lib.hid hZc
        clear hpd hNc hnm hc1 hZc
        by_cases hzz : 0 ≤ z ∧ z ≤ (t.size : Int)
        · obtain ⟨k, rfl⟩ : ∃ k : Nat, z = (k : Int) := ⟨z.toNat, by omega⟩
          have g0 : ¬ (k : Int) < 0 := by omega
          have g1 : ¬ (t.size : Int) < (k : Int) := by omega
          have g2 : (k : Int) ≤ (t.size : Int) := by omega
          have HE2 : Hid (partF ns zs (sl s) = (partF (ns.drop (j + 1)) (zs.drop (j + 1)) ((sl t).drop k)).map (pre ++ [(ns.getD j [], (sl t).take k)] ++ ·)) := Lib.hid (by
            rw [HE.out, HPD.out, if_pos hzz, Option.map_map, Int.toNat_natCast]
            congr 1
            funext y
            simp)
          have HPL := Lib.hid hpl
          have hfr : rowsF (pre ++ [(ns.getD j [], (sl t).take k)]) = rowsF pre ++ [[.string (tx (ns.getD j [])), .string (tx ((sl t).take k))]] := rowsF_snoc _ _
          have hrl : (rowsF pre).length = j := by rw [rowsF_len, hpl]
          have hhd := head_tx t k
          have htl := tail_tx t k
          have HRS : Hid (sl (tx ((sl t).drop k)) = (sl t).drop k) := Lib.hid (sl_tx ((sl_bys t).drop k))
          have HFR := Lib.hid hfr
          have HRL := Lib.hid hrl
          obtain ⟨R, hR⟩ : ∃ R, rowsF pre = R := ⟨_, rfl⟩
          rw [hR] at HRL HFR go1
          clear hfr hrl hR hpl hzz HPD hz
          obtain ⟨NM, hNM⟩ : ∃ x, tx (ns.getD j []) = x := ⟨_, rfl⟩
          obtain ⟨DT, hDT⟩ : ∃ x, tx ((sl t).take k) = x := ⟨_, rfl⟩
          obtain ⟨RT, hRT⟩ : ∃ x, tx ((sl t).drop k) = x := ⟨_, rfl⟩
          rw [hDT] at hhd HFR
          rw [hRT] at htl HRS
          rw [hNM] at HFR
          simp only [hNM] at HNC
          clear hNM hDT hRT
          obtain ⟨pu, cu, rfl⟩ := go1.isSlice
          have HO := Lib.hid go1
          have GB := Lib.hid gb
          clear go1 gb
          rw [HRL.out] at HO ⊢
          go_wp2_with fail
          refine region_turnF 13 mixed (by kernel_rfl) (by decide) (fun z => ((_ :: _ :: _ :: _ :: _ :: _ :: _ :: _ :: z 14 :: _ :: _ :: _ :: _ :: _ :: _ :: _ :: _ :: _ :: _ :: _ :: _ :: _ :: _ :: _ :: _ :: _ :: _ :: _ :: _ :: _ :: _ :: _ :: _ :: _ :: _ :: _ :: _ :: z 0 :: z 1 :: z 2 :: z 3 :: z 4 :: z 5 :: z 6 :: z 7 :: z 8 :: z 9 :: z 10 :: z 11 :: z 12 :: z 13 :: _ :: _ :: _ :: _ :: _ :: _ :: _ :: _ :: _ :: _ :: _ :: _ :: _ :: _ :: []) : List Value).toArray) [] (fun i => match i with | 0 => _ | 1 => _ | 2 => _ | 3 => _ | 4 => _ | 5 => _ | 6 => _ | 7 => _ | 8 => _ | 9 => _ | 10 => _ | 11 => _ | 12 => _ | 13 => _ | 14 => _ | _ => undef) rfl (fun b W => Below w.heap.size w W ∧ (b = false → OwnR W w.heap.size 40 2 (.slice pu j cu) R)) ⟨GB.out.drew, fun _ => HO.out.keep (Below.refl _ _).drew⟩ (prS w.heap.size (.slice pu j cu) R a b ns.length c d j k NM DT t) ?mono ?step ?one ?end_
          case mono => exact fun bb i v W W' h _ _ hb => prS_mono bb i v W W' h hb
          case step =>
            intro bb z W i o hik ho hC hd hfr
            have hr := Below.refl W.heap.size W
            rcases i with _ | _ | _ | _ | _ | _ | _ | _ | _ | _ | _ | _ | _ | _ | _ | i
            all_goals try (simp only [List.getElem?_cons_zero, List.getElem?_cons_succ, Option.some.injEq] at ho; subst ho)
            · have h14 : z 14 = .slice pu j cu := hfr 14 _ rfl ⟨⟨0, .phase⟩, by simp, rfl, rfl⟩
              rw [h14]
              go_wp2_with fail
              exact ⟨_, by simp [upd, h14], ⟨rfl, hC.2⟩, hC, hr⟩
            · go_wp2_with fail
              exact ⟨_, rfl, rfl, hC, hr⟩
            · go_wp2_with fail
              exact ⟨_, rfl, rfl, hC, hr⟩
            · have h1 : z 1 = .slice (some a) ns.length c := hd ⟨1, .data⟩ (by simp) rfl
              have h2 : z 2 = .int .i64 (j : Int) := hd ⟨2, .data⟩ (by simp) rfl
              rw [h1, h2]
              go_wp2_with fail
              exact ⟨_, by simp [upd, h1, h2], rfl, hC, hr⟩
            · have h3 : z 3 = .pointer (some (a.add j)) := hd ⟨3, .data⟩ (by simp) rfl
              have c1 := HNC.out W hC.1
              rw [h3]
              go_wp2_with fail
              exact ⟨_, by simp [upd, h3], rfl, hC, hr⟩
            · go_wp2_with fail
              exact ⟨_, rfl, rfl, hC, hr⟩
            · go_wp2_with fail
              exact ⟨_, rfl, rfl, hC, hr⟩
            · go_wp2_with fail
              exact ⟨_, rfl, rfl, hC, hr⟩
            · have h6 : z 6 = .slice (some b) ns.length d := hd ⟨6, .data⟩ (by simp) rfl
              have h7 : z 7 = .int .i64 (j : Int) := hd ⟨7, .data⟩ (by simp) rfl
              rw [h6, h7]
              go_wp2_with fail
              exact ⟨_, by simp [upd, h6, h7], rfl, hC, hr⟩
            · have h8 : z 8 = .pointer (some (b.add j)) := hd ⟨8, .data⟩ (by simp) rfl
              have c1 := HZC.out W hC.1
              rw [h8]
              go_wp2_with fail
              exact ⟨_, by simp [upd, h8], rfl, hC, hr⟩
            · have h5 : z 5 = .string t := hd ⟨5, .data⟩ (by simp) rfl
              have h9 : z 9 = .int .i64 (k : Int) := hd ⟨9, .data⟩ (by simp) rfl
              rw [h5, h9]
              go_wp2_with fail
              exact ⟨_, by simp [upd, h5, h9], rfl, hC, hr⟩
            · have h4 : z 4 = .string NM := hd ⟨4, .data⟩ (by simp) rfl
              have h10 : z 10 = .string DT := hd ⟨10, .data⟩ (by simp) rfl
              rw [h4, h10]
              go_wp2_with fail
              exact ⟨_, by simp [upd, h4, h10], rfl, hC, hr⟩
            · have h11 : z 11 = .agg #[.string NM, .string DT] := hd ⟨11, .data⟩ (by simp) rfl
              have HC' : Hid (Below w.heap.size w (W.alloc (.cells #[.string NM, .string DT] 40)) ∧ (bb = false → OwnR (W.alloc (.cells #[.string NM, .string DT] 40)) w.heap.size 40 2 (.slice pu j cu) R)) := Lib.hid ⟨hC.1.alloc hC.1.size _, fun e => (hC.2 e).alloc _⟩
              have HR' := Lib.hid (hr.alloc (Nat.le_refl _) (.cells #[.string NM, .string DT] 40))
              clear hC hr
              rw [h11]
              go_wp2_with fail
              exact ⟨_, by simp [upd, h11], fun _ => ⟨W.heap.size, rfl, Blk.new' W _ _ rfl⟩, HC'.out, HR'.out⟩
            · exact absurd rfl hik
            · have h0 := hd ⟨13, .data⟩ (by simp) rfl
              obtain ⟨v13, hv13⟩ : ∃ v, z 13 = v := ⟨_, rfl⟩
              rw [hv13] at h0 ⊢
              have H0 := Lib.hid h0
              clear h0 hd
              go_wp2_with fail
              exact ⟨_, by simp [upd, hv13], H0.out, hC, hr⟩
            · simp at ho
          case one =>
            intro z W o ho hC hd
            simp only [List.getElem?_cons_zero, List.getElem?_cons_succ, Option.some.injEq] at ho
            subst ho
            have h0 : z 0 = .slice pu j cu := (hd ⟨0, .data⟩ (by simp) rfl).1
            obtain ⟨D, h12, hD⟩ : ∃ D, z 12 = .slice (some ⟨D, 0, none⟩) 1 1 ∧ Blk W D 40 [.string NM, .string DT] := hd ⟨12, .data⟩ (by simp) rfl rfl
            have ho1 := hC.2 rfl
            have HOW := Lib.hid ho1
            have HLO := Lib.hid ho1.lt
            have HNW := Lib.hid (sl_one hD)
            have HC1 := Lib.hid hC.1
            have HBA := Lib.hid hC.1.size
            have HONE : Hid (∀ r ∈ [[Value.string NM, .string DT]], ∀ u ∈ r, u.oneCell' = true) := Lib.hid (by simp [Value.oneCell'])
            have HLEN : Hid (R.length + [[Value.string NM, .string DT]].length ≤ maxLen) := Lib.hid (by rw [HRL.out, List.length_singleton]; unfold maxLen; omega)
            have HBY : Hid ((R.length + [[Value.string NM, .string DT]].length) * 32 ≤ 140737488355328) := Lib.hid (by rw [HRL.out, List.length_singleton]; omega)
            clear ho1 hC hd hD
            rw [h0, h12]
            go_wp2_with (refine wpList_append_rows rfl _ _ 22 rfl w.heap.size 40 i0 (.agg #[.string ⟨#[]⟩, .string ⟨#[]⟩]) 2 32 Try.underlying22 hi0 hz0 hz1 hz2 rfl (by decide) (.slice pu j cu) R rfl HOW.out (.slice (some ⟨D, 0, none⟩) 1 1) [[.string NM, .string DT]] rfl HNW.out HONE.out HLEN.out HBY.out HBA.out (.inr ⟨_, _, _, rfl⟩) ?_; intro v9 w9 ho9 hg9 hv9)
            exact ⟨v9, by simp [upd, h0, h12]; rfl, ⟨rfl, ho9⟩, ⟨HC1.out.grown hg9 HC1.out.size (fun k e => (HLO.out k e).1), fun e => by cases e⟩, fun i x hi h => prS_turn i x W w9 h⟩
          case end_ =>
            intro z W hC hSS
            obtain ⟨_, ho⟩ : true = true ∧ OwnR W w.heap.size 40 2 (z 14) (R ++ [[Value.string NM, Value.string DT]]) := hSS 14 (by decide)
            obtain ⟨v14, hv14⟩ : ∃ v, z 14 = v := ⟨_, rfl⟩
            rw [hv14] at ho ⊢
            obtain ⟨p14, c14, rfl⟩ := ho.isSlice
            have c3 := HZC.out W hC.1
            have HW := Lib.hid hC.1
            have HO14 := Lib.hid ho
            clear hSS hv14 hC ho
            generalize (R ++ [[Value.string NM, .string DT]]).length = N14 at *
            go_wp2
            go_roundw
            case rel =>
              refine ⟨j + 1, pre ++ [(ns.getD j [], (sl t).take k)], RT, by omega, by go_num, rfl, by rw [List.length_append, HPL.out]; rfl, by rw [HFR.out]; exact HO14.out, by rw [HRS.out]; exact HE2.out, ?_, HW.out⟩
              intro f hf
              rcases List.mem_append.1 hf with hf | hf
              · exact HPY.out f hf
              · rw [List.mem_singleton.1 hf]; exact HNM.out
            case measure => simp [intOf]; omega
        · have e0 : r = ([], 1) := by rw [← HR.out, partR_none (by rw [HE.out, HPD.out, if_neg hzz]; rfl)]
          subst e0
          have GB := Lib.hid gb
          clear gb go1 HPD hz
          by_cases h0 : z < 0
          · clear hzz
            go_wp2
            go_ret2
            exact partRet_nil rfl GB.out
          · have g1 : (t.size : Int) < z := by omega
            clear hzz
            go_wp2
            go_ret2
            exact partRet_nil rfl GB.out
      · obtain rfl : j = ns.length := by omega
        have hpe := part_end HL.out (sl t)
        rw [sl_len] at hpe
        by_cases h0 : t.size = 0
        · have t1 := tx_none h0
          have hsm : partF ns zs (sl s) = some pre := by rw [HE.out, hpe, if_pos h0]; simp
          have hpr := partR_some hsm
          rw [HR.out] at hpr
          have sP := go1.sl
          obtain ⟨pu, cu, rfl⟩ := go1.isSlice
          rw [rowsF_len] at sP ⊢
          obtain ⟨n, hn0⟩ : ∃ n, checkF pre = n := ⟨_, rfl⟩
          have HCK := Lib.hid (fr_Check pre pu cu n wr hn0 HPY.out (by omega) sP)
          have HPR := Lib.hid hpr
          have SP := Lib.hid sP
          have GB := Lib.hid gb
          have HN0 := Lib.hid hn0
          clear hpe hsm hpr sP gb go1 h0 hn0 hpl
          by_cases hz0 : n = 0
          · subst hz0
            have e0 : r = (pre, 0) := by rw [HPR.out, if_pos HN0.out]
            subst e0
            go_wp2_with fail
            refine HCK.out.mono ?_
            rintro e w9 ⟨rfl, hb9⟩
            have S9 := Lib.hid (SP.out.below hb9)
            have GB9 := Lib.hid (GB.out.trans (hb9.mono GB.out.size))
            clear hb9
            go_wp2
            go_ret2
            exact ⟨pu, cu, rfl, S9.out, GB9.out⟩
          · have e0 : r = ([], n) := by rw [HPR.out, if_neg (by rw [HN0.out]; exact hz0), HN0.out]
            subst e0
            have g1 : ((n : Int) != 0) = true := by rw [bne_iff_ne]; omega
            have g1' : (n : Int) ≠ 0 := by omega
            go_wp2_with fail
            refine HCK.out.mono ?_
            rintro e w9 ⟨rfl, hb9⟩
            have GB9 := Lib.hid (GB.out.trans (hb9.mono GB.out.size))
            clear hb9
            go_wp2
            go_ret2
            exact partRet_nil rfl GB9.out
        · have t1 := tx_some h0
          have e0 : r = ([], 1) := by rw [← HR.out, partR_none (by rw [HE.out, hpe, if_neg h0]; rfl)]
          subst e0
          have GB := Lib.hid gb
          clear gb go1 hpe
          go_wp2
          go_ret2
          exact partRet_nil rfl GB.out
  · have g1 : ((ns.length : Int) != (zs.length : Int)) = true := by rw [bne_iff_ne]; omega
    have g1' : (ns.length : Int) ≠ (zs.length : Int) := by omega
    have e0 : r = ([], 1) := by rw [← HR.out, partR_none (partF_ne hlen)]
    subst e0
    clear hlen
    go_enter Try.func20, Try.ntmps20
    go_wp2
    go_ret2
    exact partRet_nil rfl (Below.refl _ _)
end Go.Proofs.Ytgjbnpghhelpoaa
