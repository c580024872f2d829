/- What seal makes of keys, nonces and texts, as lists and texts; the calls of layers below in these words. -/
import Derived.Test.YtleofmeejjikmaaD5
import Derived.Test.YtleofmeejjikmaaS1
import Derived.Test.YtleofmeejjikmaaMid
namespace Go.Proofs.Ytleofmeejjikmaa
open Go.RowKit
set_option linter.unusedVariables false

/-- a contract, for the class of the worlds that are as one was, but for new blocks -/
theorem inBut {P : Program} {f : FuncId} {args : Array Value} {r : Ending} {wr : World} (h : ∀ w, Calls P f args w fun e w' => e = r ∧ Below w.heap.size w w') :
    ∀ wx, NewBut wr wx → Calls P f args wx fun e w' => e = r ∧ NewBut wr w' := fun wx hx => (h wx).mono fun _ _ ⟨q1, q2⟩ => ⟨q1, hx.trans (q2.mono hx.size)⟩
def macN (key s : ByteArray) : List Nat := (macL key s).map (·.toNat)
theorem nn_toNat {l : List Int} (h : Octets l) : nn (l.map (·.toNat)) = l := by
  unfold nn
  rw [List.map_map]
  calc l.map _ = l.map id := List.map_congr_left fun x hx => by
        have := h x hx
        show ((x.toNat : Nat) : Int) = x
        omega
    _ = l := by simp
theorem macN_nn (key s : ByteArray) : nn (macN key s) = macL key s := nn_toNat (macL_octets key s)
theorem macN_len (key s : ByteArray) : (macN key s).length = 32 := by rw [← nn_length, macN_nn, macL_len]
theorem macN_bys (key s : ByteArray) : Bys (macN key s) := Bys.of fun x hx => by
  simp only [macN, List.mem_map] at hx
  obtain ⟨y, hy, rfl⟩ := hx
  have := macL_octets key s y hy
  omega
def wRead : ByteArray := ⟨#[114, 101, 97, 100]⟩
def wSeal : ByteArray := ⟨#[115, 101, 97, 108]⟩
/-- the two keys -/
def keyA (key : ByteArray) : List Nat := macN key wRead
def keyB (key : ByteArray) : List Nat := macN key wSeal
/-- a row of parts -/
def prow (nc : List Nat) (m : ByteArray) (h : List Nat) : List Value := ints .u8 (nn nc) ++ (Value.string m :: ints .u8 (nn h))
theorem prow_len {nc h : List Nat} (m : ByteArray) (hn : nc.length = 16) (hh : h.length = 32) : (prow nc m h).length = 49 := by
  simp [prow, ints_length, nn_length, hn, hh]
theorem prow_one (nc : List Nat) (m : ByteArray) (h : List Nat) : (prow nc m h).toArray.all (·.oneCell') = true := by
  rw [Array.all_eq_true_iff_forall_mem]
  intro v hv
  simp only [prow, ints, List.mem_toArray, List.mem_append, List.mem_cons, List.mem_map] at hv
  rcases hv with ⟨n, _, rfl⟩ | rfl | ⟨n, _, rfl⟩ <;> rfl
theorem nc_len {nc : List Nat} (hn : nc.length = 16) : (ints .u8 (nn nc)).length = 16 := by rw [ints_length, nn_length, hn]
/-- what a text is made to -/
def hidT (key nc : List Nat) (s : ByteArray) : ByteArray := tx (xrL (sl s) (padF key nc))
theorem hidT_size (key nc : List Nat) (s : ByteArray) : (hidT key nc s).size = s.size := by unfold hidT; rw [tx_size, xrL_len, sl_len]
theorem hidT_twice (key nc : List Nat) (s : ByteArray) : hidT key nc (hidT key nc s) = s := by
  unfold hidT
  rw [sl_tx (xrL_bys (sl_bys s) (padF_lt key nc)), xrL_twice, tx_sl]
/-- what stands ahead of a seal -/
def aheadT (nc : List Nat) (m : ByteArray) : ByteArray := tx nc ++ m
theorem aheadT_size {nc : List Nat} (m : ByteArray) (hn : nc.length = 16) : (aheadT nc m).size = 16 + m.size := by unfold aheadT; rw [ByteArray.size_append, tx_size, hn]
/-- the seal of parts -/
def sealN (key : ByteArray) (nc : List Nat) (m : ByteArray) : List Nat := macN (tx (keyB key)) (aheadT nc m)
theorem sealN_len (key : ByteArray) (nc : List Nat) (m : ByteArray) : (sealN key nc m).length = 32 := macN_len _ _
theorem sealN_bys (key : ByteArray) (nc : List Nat) (m : ByteArray) : Bys (sealN key nc m) := macN_bys _ _
/-- a sealed text -/
def sealT (key : ByteArray) (nc : List Nat) (s : ByteArray) : ByteArray := aheadT nc (hidT (keyA key) nc s) ++ tx (sealN key nc (hidT (keyA key) nc s))
theorem sealT_size (key : ByteArray) {nc : List Nat} (s : ByteArray) (hn : nc.length = 16) : (sealT key nc s).size = s.size + 48 := by
  unfold sealT
  rw [ByteArray.size_append, aheadT_size _ hn, hidT_size, tx_size, sealN_len]
  omega
/-- the parts of a sealed text -/
def ptN (s : ByteArray) : List Nat := (sl s).take 16
def ptM (s : ByteArray) : ByteArray := s.extract 16 (s.size - 32)
def ptH (s : ByteArray) : List Nat := (sl s).drop (s.size - 32)
theorem ptN_len {s : ByteArray} (h : 16 ≤ s.size) : (ptN s).length = 16 := by unfold ptN; rw [List.length_take, sl_len]; omega
theorem ptN_bys (s : ByteArray) : Bys (ptN s) := (sl_bys s).take _
theorem ptH_len {s : ByteArray} (h : 48 ≤ s.size) : (ptH s).length = 32 := by unfold ptH; rw [List.length_drop, sl_len]; omega
theorem ptH_bys (s : ByteArray) : Bys (ptH s) := (sl_bys s).drop _
theorem ptM_size {s : ByteArray} : (ptM s).size ≤ s.size := by unfold ptM; rw [ByteArray.size_extract]; omega
theorem sl_ptM (s : ByteArray) : sl (ptM s) = ((sl s).take (s.size - 32)).drop 16 := by
  simp [ptM, sl, ByteArray.data_extract, List.map_take, List.map_drop]
  rw [List.drop_take]
theorem ahead_pt {s : ByteArray} (h : 48 ≤ s.size) : aheadT (ptN s) (ptM s) = s.extract 0 (s.size - 32) := by
  apply sl_inj
  unfold aheadT
  rw [sl_app, sl_tx (ptN_bys s), sl_ptM, sl_head]
  unfold ptN
  rw [show List.take 16 (sl s) = List.take 16 (List.take (s.size - 32) (sl s)) by rw [List.take_take]; congr 1; omega, List.take_append_drop]
theorem tail_pt (s : ByteArray) : tx (ptH s) = s.extract (s.size - 32) s.size := by rw [tail_tx]; rfl
/-- what Open tells: the text, and the error -/
def openT (key s : ByteArray) : ByteArray × Nat :=
  if s.size < 48 then (⟨#[]⟩, 40) else if ptH s = sealN key (ptN s) (ptM s) then (hidT (keyA key) (ptN s) (ptM s), 0) else (⟨#[]⟩, 50)
/-- what Nonce tells -/
def nonceN (s : ByteArray) : List Nat := if s.size < 16 then zerN 16 else (sl s).take 16
theorem nonceN_len (s : ByteArray) : (nonceN s).length = 16 := by
  unfold nonceN
  split
  · exact zerN_len _
  · rw [List.length_take, sl_len]; omega
theorem sl_sealT (key : ByteArray) {nc : List Nat} (s : ByteArray) (hb : Bys nc) : sl (sealT key nc s) = nc ++ (sl (hidT (keyA key) nc s) ++ sealN key nc (hidT (keyA key) nc s)) := by
  unfold sealT aheadT
  rw [sl_app, sl_app, sl_tx hb, sl_tx (sealN_bys _ _ _), List.append_assoc]
theorem open_seal (key : ByteArray) {nc : List Nat} (s : ByteArray) (hn : nc.length = 16) (hb : Bys nc) : openT key (sealT key nc s) = (s, 0) := by
  have hz := sealT_size key s hn
  have hl := sl_sealT key s hb
  have hsz : (sl (hidT (keyA key) nc s)).length = s.size := by rw [sl_len, hidT_size]
  have e1 : ptN (sealT key nc s) = nc := by
    unfold ptN
    rw [hl, List.take_append_of_le_length (by omega), List.take_of_length_le (by omega)]
  have e3 : ptH (sealT key nc s) = sealN key nc (hidT (keyA key) nc s) := by
    unfold ptH
    rw [hl, hz, ← List.append_assoc, List.drop_append_of_le_length (by rw [List.length_append, hn, hsz]; omega), List.drop_of_length_le (by rw [List.length_append, hn, hsz]; omega), List.nil_append]
  have e2 : ptM (sealT key nc s) = hidT (keyA key) nc s := by
    apply sl_inj
    rw [sl_ptM, hl, hz, ← List.append_assoc, List.take_append_of_le_length (by rw [List.length_append, hn, hsz]; omega), List.take_of_length_le (by rw [List.length_append, hn, hsz]; omega), List.drop_append_of_le_length (by omega), List.drop_of_length_le (by omega), List.nil_append]
  unfold openT
  rw [if_neg (by omega), e1, e2, e3, if_pos rfl, hidT_twice]
theorem nonce_seal (key : ByteArray) {nc : List Nat} (s : ByteArray) (hn : nc.length = 16) (hb : Bys nc) : nonceN (sealT key nc s) = nc := by
  have hz := sealT_size key s hn
  unfold nonceN
  rw [if_neg (by omega), sl_sealT key s hb, List.take_append_of_le_length (by omega), List.take_of_length_le (by omega)]

theorem d_MacN (key s : ByteArray) (w : World) (hk : key.size ≤ 549755813888) (hs : s.size ≤ 549755813888) :
    Calls Try.prog 23 #[.string key, .string s] w fun e w' => e = .returned (.agg (ints .u8 (nn (macN key s))).toArray) ∧ Below w.heap.size w w' := by
  rw [macN_nn]
  exact d_Mac key s w hk hs
theorem s_Hid (key nc : List Nat) (s : ByteArray) (w : World) (hk : key.length = 32) (hkb : Bys key) (hn : nc.length = 16) (hnb : Bys nc) (hs : s.size ≤ 65536) :
    Calls Try.prog 21 #[.agg (ints .u8 (nn key)).toArray, .agg (ints .u8 (nn nc)).toArray, .string s] w fun e w' => e = .returned (.string (hidT key nc s)) ∧ Below w.heap.size w w' :=
  s_Apply key nc s w hk hkb hn hnb hs
end Go.Proofs.Ytleofmeejjikmaa
