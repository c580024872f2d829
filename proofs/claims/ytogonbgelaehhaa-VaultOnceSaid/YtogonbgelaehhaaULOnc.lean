/- VaultOnce is proved: behind any requests (of no more than may be) no two versions have one Id, there are eight at most, and each may be; live blocks are each told once. Conditions: none besides the statement's own. -/
import Derived.Test.YtogonbgelaehhaaUGd
import Derived.Test.YtogonbgelaehhaaHG
import Derived.Test.YtogonbgelaehhaaG1
import Derived.Test.YtogonbgelaehhaaG4
import Derived.Test.YtogonbgelaehhaaUWe
namespace Go.Proofs.Ytogonbgelaehhaa.vaultOnce
open Go.RowKit Go.ChangeShapes Go.WideShapes
set_option linter.unusedVariables false

theorem ids_apart {l : List RawV} (h : (l.map RawV.id).Nodup) {i k : Nat} (hi : i < l.length) (hk : k < i) : (l.getD k noV).id ≠ (l.getD i noV).id := by
  have h1 : k < l.length := by omega
  intro e
  rw [List.getD_eq_getElem?_getD, List.getD_eq_getElem?_getD, List.getElem?_eq_getElem hi, List.getElem?_eq_getElem h1] at e
  have := (List.pairwise_iff_getElem.1 h) k i (by simpa using h1) (by simpa using hi) hk
  simp at this
  exact this e
theorem hash_apart {l : List (List Nat)} (h : l.Nodup) {i k : Nat} (hi : i < l.length) (hk : k < i) : l.getD i [] ≠ l.getD k [] := by
  have h1 : k < l.length := by omega
  intro e
  rw [List.getD_eq_getElem?_getD, List.getD_eq_getElem?_getD, List.getElem?_eq_getElem hi, List.getElem?_eq_getElem h1] at e
  exact (List.pairwise_iff_getElem.1 h) k i h1 hi hk e.symm
theorem live_mem : ∀ (l : List (List Nat)) (o : List (List Nat)) (x : List Nat), x ∈ l.foldl liveStep o → x ∈ o ∨ x ∈ l
  | [], o, x, h => .inl h
  | y :: l, o, x, h => by
    rcases live_mem l (liveStep o y) x h with h | h
    · unfold liveStep at h
      split at h
      · exact .inl h
      · rcases List.mem_append.1 h with h | h
        · exact .inl h
        · rw [List.mem_singleton.1 h]; exact .inr (by simp)
    · exact .inr (by simp [h])
theorem live_len : ∀ (l : List (List Nat)) (o : List (List Nat)), (l.foldl liveStep o).length ≤ o.length + l.length
  | [], o => Nat.le_add_right _ _
  | y :: l, o => by
    have h1 := live_len l (liveStep o y)
    have h2 : (liveStep o y).length ≤ o.length + 1 := by unfold liveStep; split <;> simp
    rw [List.foldl_cons, List.length_cons]
    omega
theorem blks_len : ∀ (l : List RawV), (∀ v ∈ l, v.bl.length ≤ 1000) → (blksV l).length ≤ 1000 * l.length
  | [], _ => Nat.le_refl _
  | v :: l, h => by
    have h1 := blks_len l fun v hv => h v (by simp [hv])
    have h2 := h v (by simp)
    unfold blksV at h1 ⊢
    rw [List.flatMap_cons, List.length_append, List.length_cons]
    omega
theorem live_few {s : StU RawV} (h : StS s) : (liveU (blksV s.vers)).length ≤ 8000 := by
  have h1 := live_len (blksV s.vers) []
  have h2 := blks_len s.vers fun v hv => (h.2.1 v hv).2.1
  have h3 := h.1.vers.few
  unfold liveU
  rw [List.length_nil] at h1
  omega
theorem live_hash {s : StU RawV} (h : StS s) : HashL (liveU (blksV s.vers)) := fun x hx => by
  rcases live_mem _ _ x hx with hx | hx
  · cases hx
  · obtain ⟨v, hv, hx⟩ := List.mem_flatMap.1 hx
    exact (h.2.1 v hv).1.2.1 x hx
set_option maxRecDepth 100000 in
set_option maxHeartbeats 4000000 in
theorem walkK (K : VaultKit) (l : List (ReqU RawV)) (p : Option Addr) (c : Nat) (hin : ∀ r ∈ l, ReqIn r) (w : World) (hq : ReqsV w (.slice p l.length c) l) :
    Calls Try.prog 5 #[.slice p l.length c] w fun e w' => e = .returned (.bool true) ∧ Below w.heap.size w w' := by
  cases hh : heavyQ l with
  | true =>
    have HH := Lib.hid (l17_heavy l p c true w hh hq)
    have HS := Lib.hid (fun wx => l17_shown K wx)
    clear hq hin hh
    go_enter Try.func5, Try.ntmps5
    go_wp2_with fail
    (with_reducible refine HH.out.mono ?_)
    rintro e w1 ⟨rfl, hb1⟩
    have HB1 := Lib.hid hb1
    clear hb1
    go_wp2_with fail
    (with_reducible refine (HS.out _).mono ?_)
    rintro e w2 ⟨rfl, hb2⟩
    have HB2 := Lib.hid (HB1.out.trans (hb2.mono HB1.out.size))
    clear hb2
    go_wp2
    go_ret
    exact ⟨rfl, HB2.out⟩
  | false =>
    obtain ⟨h60, hok⟩ := reqs_S hin hh
    have HH := Lib.hid (l17_heavy l p c false w hh hq)
    have HS := Lib.hid (fun wx => l17_shown K wx)
    have hsS := (all_S l fun r hr => (hok r hr).2.2).1
    have HA := Lib.hid (fun (wx : World) (hb : Below w.heap.size w wx) => K.all l p c wx wx.heap.size (Nat.le_refl _) (by omega) ((hq.below hb).below (below_er (Below.refl _ _))) hok)
    generalize (allR l).1 = s at *
    have HSS := Lib.hid hsS
    clear hq hin hh hok h60 hsS
    go_enter Try.func5, Try.ntmps5
    go_wp2_with fail
    (with_reducible refine HH.out.mono ?_)
    rintro e w1 ⟨rfl, hb1⟩
    have HB1 := Lib.hid hb1
    clear hb1
    go_wp2_with fail
    (with_reducible refine (HS.out _).mono ?_)
    rintro e w2 ⟨rfl, hb2⟩
    have HB2 := Lib.hid (HB1.out.trans (hb2.mono HB1.out.size))
    clear hb2
    go_wp2_with fail
    refine (HA.out w2 HB2.out).mono ?_
    rintro e w3 ⟨v', vo, rows, rfl, hst, hro, hre, hb3⟩
    obtain ⟨S, pv, cv, rfl, hSl, hSo, hS0, _⟩ := st_cells hst
    obtain ⟨po, co, rfl⟩ := hro.isSlice
    have hst3 := hst.sub (er_sub _ w3)
    obtain ⟨y, hy⟩ : ∃ y, w3.heap.size = y := ⟨_, rfl⟩
    obtain ⟨w4, hw4⟩ : ∃ w4, (w3.alloc (.cells zS.toArray 42)).setRow y S.toArray = w4 := ⟨_, rfl⟩
    have ky : Blk (w3.alloc (.cells zS.toArray 42)) y 42 zS := by rw [← hy]; exact Blk.new' w3 42 zS rfl
    have kS : Blk w4 y 42 S := by rw [← hw4]; exact ky.row S (by rw [hSl]; rfl)
    have b4 : Below w3.heap.size w3 w4 := by rw [← hw4]; exact below_setRow ((Below.refl w3.heap.size w3).alloc (Nat.le_refl _) _) (Nat.le_of_eq hy) _
    have hst4 := hst3.below b4
    have KY := Lib.hid ky
    have KS := Lib.hid kS
    have HST := Lib.hid hst4
    have HY := Lib.hid hy
    have HS0 := Lib.hid hS0
    have HSL : Hid ((Try.prog.info? 42).map (·.size) = some S.length ∧ zS.length = S.length ∧ S.toArray.all (·.oneCell') = true) := Lib.hid ⟨by rw [size_sv, hSl], by rw [hSl]; rfl, hSo⟩
    have HB4 := Lib.hid ((HB2.out.trans (hb3.mono HB2.out.size)).trans (b4.mono (by have := HB2.out.size; have := hb3.size; omega)))
    clear hst hst3 hro hre hb3 hSl hSo hS0 ky kS b4 hst4 HA hy
    go_wp2_with (first | (refine wpList_alloc_n rfl 42 rfl y HY.out _ (alloc_sv _) ?_) | (refine wpList_store_blk rfl 42 _ _ rfl y S (by first | rfl | rw [HY.out]) rfl KY.out HSL.out.1 HSL.out.2.1 HSL.out.2.2 ?_; rw [hw4]))
    go_loopw [5] (fun i wr => ∃ j : Nat, j ≤ s.vers.length ∧ i = .int .i64 (j : Int) ∧ Below w4.heap.size w4 wr) (fun i _ => s.vers.length - (intOf i).toNat)
    case atStart => exact ⟨0, Nat.zero_le _, rfl, Below.refl _ _⟩
    case round =>
      obtain ⟨j, hj, rfl, gb⟩ := hrel
      have GB := Lib.hid gb
      have h8 := HSS.out.1.vers.few
      have kr := KS.out.below gb KS.out.lt
      have c0 := (kr.cell 0).trans HS0.out
      have hsr := HST.out.below gb
      have HSR := Lib.hid hsr
      have KR := Lib.hid kr
      clear gb kr hsr
      by_cases hlt : j < s.vers.length
      · obtain ⟨S', pv', cv', e', _, _, e0, hV⟩ := st_cells HSR.out
        have e1 : S' = S := by
          have := congrArg (fun v => match v with | Value.agg c => c.toList | _ => []) e'
          simpa using this.symm
        subst e1
        have e2 := e0.symm.trans HS0.out
        simp only [Option.some.injEq, Value.slice.injEq] at e2
        obtain ⟨rfl, _, rfl⟩ := e2
        have hV0 := hV
        obtain ⟨a, r, rfl, hal, hv, hrl, hcel⟩ := hV.at hlt
        have hvs := versS HSS.out j hlt
        have hmay : mayR (s.vers.getD j noV) = true := HSS.out.1.vers.each _ (by rw [List.getD_eq_getElem?_getD, List.getElem?_eq_getElem hlt]; exact List.getElem_mem hlt)
        have HM := Lib.hid (hr_May (s.vers.getD j noV) (.agg r.toArray) true wr hmay hv hvs.1.2.2.1 hvs.2.1 hvs.2.2.1 hvs.2.2.2)
        have HCL := Lib.hid hcel
        have HRL := Lib.hid hrl
        have HV0 := Lib.hid hV0
        have HLT := Lib.hid hlt
        have d1 : (j : Int) < (s.vers.length : Int) := by omega
        have d2 : (s.vers.length : Int) ≤ 8 := by omega
        clear e' e0 hV hV0 hal hv hrl hcel hvs hmay
        go_wp2_with (refine wpList_load_addr rfl 28 _ rfl (a.add (j * 4)) rfl r HCL.out Try.underlying28 rfl (by rw [size_ver, HRL.out]) ?_)
        (with_reducible refine HM.out.mono ?_)
        rintro e w5 ⟨rfl, hb5⟩
        have GB5 := Lib.hid (GB.out.trans (hb5.mono GB.out.size))
        have HV5 := Lib.hid (HV0.out.below hb5)
        have KR5 := Lib.hid (KR.out.below hb5 KR.out.lt)
        clear hb5 c0 HM HCL
        go_wp2_with fail
        go_loopw [6] (fun i wr => ∃ k : Nat, k ≤ j ∧ i = .int .i64 (k : Int) ∧ Below w5.heap.size w5 wr) (fun i _ => j - (intOf i).toNat)
        case atStart => exact ⟨0, Nat.zero_le _, rfl, Below.refl _ _⟩
        case round =>
          obtain ⟨k, hk, rfl, gk⟩ := hrel
          have GK := Lib.hid (GB5.out.trans (gk.mono GB5.out.size))
          have GK5 := Lib.hid gk
          by_cases hkl : k < j
          · have hne := ids_apart HSS.out.1.vers.once HLT.out hkl
            have hV := HV5.out.below gk
            obtain ⟨a1, ea, y1⟩ := hV.id_at HLT.out
            obtain ⟨a2, eb, y2⟩ := hV.id_at (show k < s.vers.length by have := HLT.out; omega)
            cases ea
            cases eb
            have c0 := ((KR5.out.below gk KR5.out.lt).cell 0).trans HS0.out
            have d3 : (k : Int) < (j : Int) := by omega
            have d4 : (k : Int) < (s.vers.length : Int) := by omega
            have hne2 : (((s.vers.getD k noV).id : Int) == ((s.vers.getD j noV).id : Int)) = false := by simpa using (fun h : ((s.vers.getD k noV).id : Int) = ((s.vers.getD j noV).id : Int) => hne (by omega))
            have HKL := Lib.hid hkl
            clear hne hV gk hkl
            generalize ((s.vers.getD k noV).id : Int) = x1 at *
            generalize ((s.vers.getD j noV).id : Int) = x2 at *
            go_wp2_with fail
            go_quiet (fail)
            have GQ := Lib.hid (below_drewN GK5.out nq)
            clear c0 y1 y2
            generalize wr.drewN nq = w6 at *
            go_wp2
            go_roundw
            case rel => exact ⟨k + 1, by have := HKL.out; omega, by go_num, GQ.out⟩
            case measure => (have := HKL.out; simp [intOf]; omega)
          · have d3 : ¬ (k : Int) < (j : Int) := by omega
            clear gk
            go_wp2
            go_roundw
            case rel => exact ⟨j + 1, by have := HLT.out; omega, by go_num, GK.out⟩
            case measure => (have := HLT.out; simp [intOf]; omega)
      · obtain rfl : j = s.vers.length := by omega
        have HLV := Lib.hid (K.live s (.agg S.toArray) wr HSR.out HSS.out)
        have hbl : HashL (liveU (blksV s.vers)) := live_hash HSS.out
        have hnd := live_nodup (blksV s.vers)
        have hfew := live_few HSS.out
        have HBL := Lib.hid hbl
        have HND := Lib.hid hnd
        have HFW := Lib.hid hfew
        clear hbl hnd hfew
        generalize liveU (blksV s.vers) = L at *
        go_wp2_with (refine wpList_load_blk rfl 42 _ rfl y rfl KR.out Try.underlying42 rfl HSL.out.1 ?_)
        refine HLV.out.mono ?_
        rintro e w5 ⟨vo, rfl, hvo, hb5⟩
        obtain ⟨pL, cL, rfl⟩ := hvo.isSlice
        have GB5 := Lib.hid (GB.out.trans (hb5.mono GB.out.size))
        have KR5 := Lib.hid (KR.out.below hb5 KR.out.lt)
        have hll : (rowsH L).length = L.length := rowsH_len L
        have HSO := Lib.hid hvo.sl
        rw [hll] at HSO
        rw [hll]
        clear hvo hb5 HLV c0 hll
        go_wp2_with fail
        go_loopw [8] (fun i wr => ∃ j : Nat, j ≤ L.length ∧ i = .int .i64 (j : Int) ∧ Below w5.heap.size w5 wr) (fun i _ => L.length - (intOf i).toNat)
        case atStart => exact ⟨0, Nat.zero_le _, rfl, Below.refl _ _⟩
        case round =>
          obtain ⟨j, hj, rfl, gk⟩ := hrel
          have GK := Lib.hid gk
          clear gk
          by_cases hlt : j < L.length
          · have d1 : (j : Int) < (L.length : Int) := by omega
            have HLT := Lib.hid hlt
            have d2 : (L.length : Int) ≤ 8000 := by have := HFW.out; omega
            clear hlt
            go_wp2_with fail
            obtain ⟨wo, rfl⟩ : ∃ wo, wo = wr := ⟨_, rfl⟩
            go_loopw [9] (fun i wq => ∃ k : Nat, k ≤ j ∧ i = .int .i64 (k : Int) ∧ Below wo.heap.size wo wq) (fun i _ => j - (intOf i).toNat)
            case atStart => exact ⟨0, Nat.zero_le _, rfl, Below.refl _ _⟩
            case round =>
              obtain ⟨k, hk, rfl, gq⟩ := hrel
              have GQ := Lib.hid (GK.out.trans (gq.mono GK.out.size))
              have GQK := Lib.hid gq
              by_cases hkl : k < j
              · have hkL : k < L.length := by have := HLT.out; omega
                have hne := hash_apart HND.out HLT.out hkl
                have hx1 := HBL.out _ (getN_mem HLT.out)
                have hx2 := HBL.out _ (getN_mem hkL)
                obtain ⟨a1, rfl, _⟩ := (HSO.out.below GQ.out).row (rowsH_at HLT.out)
                have R0 : Hid (∀ wx, (∃ m, wx = wr.drewN m) → ∀ i v, (rowH (L.getD j []))[i]? = some v → wx.cell? ((a1.add (j * 32)).add i) = some v) := Lib.hid fun wx hx => by
                  obtain ⟨m, rfl⟩ := hx
                  obtain ⟨a', e, hc⟩ := (HSO.out.below (below_drewN GQ.out m)).row (rowsH_at HLT.out)
                  cases e
                  exact hc
                have R1 : Hid (∀ wx, (∃ m, wx = wr.drewN m) → ∀ i v, (rowH (L.getD k []))[i]? = some v → wx.cell? ((a1.add (k * 32)).add i) = some v) := Lib.hid fun wx hx => by
                  obtain ⟨m, rfl⟩ := hx
                  obtain ⟨a', e, hc⟩ := (HSO.out.below (below_drewN GQ.out m)).row (rowsH_at hkL)
                  cases e
                  exact hc
                have heq : ∀ w, (binOp .eql 64 (.agg (rowH (L.getD j [])).toArray) (.agg (rowH (L.getD k [])).toArray)).run Try.prog w = .ok (.bool false) w := fun w => by
                  have h := run_eql_ints (P := Try.prog) w 64 5 32 .u8 Try.underlying64 Try.underlying5 sizeOf_u8 (nn (L.getD j [])) (nn (L.getD k [])) (by rw [nn_length, hx1.1]) (by rw [nn_length, hx2.1])
                  rw [show (nn (L.getD j []) == nn (L.getD k [])) = false by simpa using fun h => hne (nn_inj h)] at h
                  exact h
                have hl0 : (rowH (L.getD j [])).length = 32 := rowH_len hx1.1
                have hl1 : (rowH (L.getD k [])).length = 32 := rowH_len hx2.1
                have d3 : (k : Int) < (j : Int) := by omega
                have d1 : (j : Int) < (L.length : Int) := by have := HLT.out; omega
                have d4 : (k : Int) < (L.length : Int) := by omega
                have HKL := Lib.hid hkl
                clear hne hx1 hx2 hkl hkL gq
                generalize rowH (L.getD j []) = X at *
                generalize rowH (L.getD k []) = Y at *
                go_wp2_with fail
                refine region_drew_tail 8 mixed (by kernel_rfl) ?_
                simp only [List.take_succ_cons, List.take_zero, List.drop_succ_cons, List.drop_zero]
                repeat (first | (refine wpQuiet_load_addr rfl 64 _ rfl (a1.add (j * 32)) rfl X R0.out Try.underlying64 rfl (by rw [size_hashV, hl0]) ?_) | (refine wpQuiet_load_addr rfl 64 _ rfl (a1.add (k * 32)) rfl Y R1.out Try.underlying64 rfl (by rw [size_hashV, hl1]) ?_) | go_big_quiet_step (fail) | (refine wpQuiet_step (fun K' hK' => ?_); go_simp; first | (refine hK' _ ?_; clear hK' K') | (refine ⟨_, fun _ _ => rfl, hK' _ ?_⟩; clear hK' K')))
                refine wpQuiet_nil ?_
                rintro w7 ⟨k7, rfl⟩
                have GQ7 := Lib.hid (below_drewN GQK.out k7)
                generalize wr.drewN k7 = w7 at *
                go_wp2
                go_roundw
                case rel => exact ⟨k + 1, by have := HKL.out; omega, by go_num, GQ7.out⟩
                case measure => (have := HKL.out; simp [intOf]; omega)
              · have d3 : ¬ (k : Int) < (j : Int) := by omega
                clear gq
                go_wp2
                go_roundw
                case rel => exact ⟨j + 1, by have := HLT.out; omega, by go_num, GQ.out⟩
                case measure => (have := HLT.out; simp [intOf]; omega)
          · obtain rfl : j = L.length := by omega
            have c0 := ((KR5.out.below GK.out KR5.out.lt).cell 0).trans HS0.out
            have d8 : (s.vers.length : Int) ≤ 8 := by have := HSS.out.1.vers.few; omega
            have HE := Lib.hid ((HB4.out.trans (GB5.out.mono HB4.out.size)).trans (GK.out.mono (Nat.le_trans HB4.out.size GB5.out.size)))
            go_wp2
            go_ret
            exact ⟨rfl, HE.out⟩
theorem walk (l : List (ReqU RawV)) (p : Option Addr) (c : Nat) (hin : (∀ r ∈ l, ReqIn r) ∧ l.length ≤ maxLen ∧ (Value.slice p l.length c = .slice none 0 0 ∨ ((∃ a, p = some a) ∧ l.length ≤ c))) (w : World) (hq : ReqsV w (.slice p l.length c) l) :
    Calls Try.prog 5 #[.slice p l.length c] w fun e w' => e = .returned (.bool true) ∧ Below w.heap.size w w' := walkK theVault l p c hin.1 w hq
set_option maxRecDepth 100000 in
theorem lifted (os : Os) (started : os.Started) (H : Type) (enc : TypeId × Value → H) :
    ReturnsInHanded {} Try.checked os 5 .any (Rows.vaultOnceSpec.pre6 enc Try.prog Try.f5 Rows.vaultOnceRow.domain false) (Rows.vaultOnceSpec.post enc Try.prog Try.f5 false true false false) := by
  refine returnsInHanded_of_change (C := Try.checked) own started (by kernel_rfl) Try.func5
    (ChangeSpec.witness6 (enc := enc) (C := Try.checked) false ⟨#[], #[.slice none 0 0], []⟩ 8 (by kernel_rfl) (by kernel_rfl) (by kernel_rfl) (by kernel_rfl)) ?_
  intro W base args ds gs before hval0 hW hcnd _
  have hval : ∀ (j : Nat) t v, Try.f5.params[j]? = some t → args[j]? = some v → Value.okWide Try.prog W .any base t v := hval0
  have hW' := hW
  obtain ⟨p, q, hA0, hV, rfl, hfz, hnd⟩ := hW
  have hA : DataW.TrodAll enc Try.prog W 0 (fun _ => true) true Try.f5.params.toList args.toList ds p := hA0
  rw [Try.params5] at hA hval
  obtain ⟨v0, vs0, d0, ds0, p0, q0, hargs, rfl, rfl, h0, r0⟩ := trodAll_cons hA
  obtain ⟨rfl, rfl, rfl⟩ := trodAll_nil r0
  obtain rfl : args = #[v0] := by cases args; simp_all
  obtain ⟨rfl, rfl⟩ := trodVars_none hV
  have k0 := h0
  have lt0 : ∀ x ∈ p0, x.block < W.heap.size := by obtain ⟨m, hm⟩ := k0; exact DataW.trod_lt m _ _ _ hm
  obtain ⟨a0, m0, c0, rfl⟩ := Go.WideShapes.okWide_slice Try.underlying22 (hval 0 22 v0 rfl rfl)
  obtain ⟨l0, rfl, S0, n0⟩ := open_reqs h0
  clear hA0 hval0
  simp only [List.append_nil] at hW'
  refine (walk l0 a0 c0 n0 W S0).mono fun e W' ⟨he, bel⟩ => ?_
  subst he
  exact ⟨_, rfl, _, _, _, [], _, [], hW', trodAll_mk1 (shut_bool Try.underlying4 _), (trodAll_cons_mk (Below.trod laidOut (by kernel_rfl) (of_decide_eq_true (by kernel_rfl)) k0 bel lt0) trodAll_mk0), rfl, bel.frame _, fun h => by cases h⟩

theorem over : Rows.vaultOnceRow.holds Try.pinned (OpenSpec.ofChange Rows.vaultOnceSpec) :=
  OpenClaim.holds_of_wide 5 Try.f5 rfl rfl rfl rfl rfl rfl rfl ⟨rfl, rfl, rfl, rfl, rfl⟩ rfl rfl rfl rfl rfl (by kernel_rfl) Try.func5 (by kernel_rfl)
    (of_decide_eq_true (by kernel_rfl)) (by unfold Func.isWrapper; first | (rw [if_pos (by decide +kernel)]; kernel_rfl) | (rw [if_neg (by decide +kernel)]; exact ⟨rfl, rfl⟩))
    (fun os started H enc _ => lifted os started H enc)

theorem proved : Rows.VaultOnceSaid :=
  over
#print axioms proved
end Go.Proofs.Ytogonbgelaehhaa.vaultOnce
