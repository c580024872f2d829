/- What the laws of stage 16 ask of the program's slots, over the program's disk; the record of the laws laid first, out of it. -/
import Derived.Test.YtccplgicfbfjiaaOtKit
import Derived.Test.YtccplgicfbfjiaaZB
import Derived.Test.YtccplgicfbfjiaaZC
namespace Go.Proofs.Ytccplgicfbfjiaa
open Go.RowKit
set_option linter.unusedVariables false

structure SlotKit2 where
  load : ∀ {base : Nat} {w : World} {D : Nat} {d : DiskM} {F : Nat → Prop} (h : DkF base w D d F) (hb : DkN d 60000) (hw : base ≤ w.heap.size) (fr k : Int) (hf : (Lit.int .i64 fr).wf = true) (hk : (Lit.int .i64 k).wf = true) (s : ByteArray) (n e : Nat) (hl : ldG d fr k = (sl s, n, e)),
    Calls Try.prog 11 #[ptD D, .int .i64 fr, .int .i64 k] w fun x w' => x = .returned (.tuple #[.string s, .int .u64 (n : Int), .int .i64 (e : Int)]) ∧ ∃ F', DkF base w' D d F' ∧ Turn base w w' F F'
  save : ∀ {base : Nat} {w : World} {D : Nat} {d : DiskM} {F : Nat → Prop} (h : DkF base w D d F) (hb : DkN d 60000) (hw : base ≤ w.heap.size) (fr k : Int) (hf : (Lit.int .i64 fr).wf = true) (hk : (Lit.int .i64 k).wf = true) (s : ByteArray) (hs : s.size ≤ 4096) (hx : mayS d fr k → slNext d fr.toNat k.toNat < 2 ^ 64) (e : Nat) (d' : DiskM) (hg : svG d fr k (sl s) = (e, d')),
    Calls Try.prog 9 #[ptD D, .int .i64 fr, .int .i64 k, .string s] w fun x w' => x = .returned (.int .i64 (e : Int)) ∧ ∃ F', DkF base w' D d' F' ∧ Turn base w w' F F'
  size : ∀ (k : Nat) (w : World) (h1 : 1 ≤ k) (h2 : k ≤ 100) (n : Nat) (hn : slSize k = n), Calls Try.prog 14 #[.int .i64 (k : Int)] w fun x w' => x = .returned (.int .i64 (n : Int)) ∧ Below w.heap.size w w'
/-- the other journals' rest: an error's disk is as it was -/
theorem DkF.below {base : Nat} {w w' : World} {D : Nat} {d : DiskM} {F : Nat → Prop} (h : DkF base w D d F) (hb : Below w.heap.size w w') : DkF base w' D d F := h.keep fun i hi => hb.block i (h.lt i hi).2
theorem may_wf {d : DiskM} {fr k : Nat} (hd : d.sec.length ≤ 4096) (hm : mayS d fr k) : (Lit.int .i64 (fr : Int)).wf = true ∧ (Lit.int .i64 (k : Int)).wf = true := by
  obtain ⟨h1, h2, h3, h4⟩ := hm
  exact ⟨wf_small fr (by omega), wf_small k (by omega)⟩
def SlotKit2.old (K : SlotKit2) : SlotKit where
  Rep := fun base w D d => ∃ F, DkF base w D d F
  keep := fun ⟨F, h⟩ hb => ⟨F, h.below hb⟩
  new_yes := fun n w base h1 h2 hb => (d_New_yes n w base h1 h2 hb).mono fun _ _ ⟨D, F, e, h, hB, _⟩ => ⟨D, e, ⟨F, h⟩, hB⟩
  load_no := fun {base w D d} ⟨F, h⟩ hb hw fr k hf hk hn => (K.load h (hb.n.more (by decide)) hw fr k hf hk ⟨#[]⟩ 0 1 (ldG_no hn)).mono fun _ _ ⟨e, F', h', t⟩ => ⟨e, ⟨F', h'⟩, t.b⟩
  load_none := fun {base w D d} ⟨F, h⟩ hb hw fr k hm hl => (K.load h (hb.n.more (by decide)) hw fr k (may_wf hb.n.sec hm).1 (may_wf hb.n.sec hm).2 ⟨#[]⟩ 0 160 (ldG_none (off_j hb) hm hl)).mono fun _ _ ⟨e, F', h', t⟩ => ⟨e, ⟨F', h'⟩, t.b⟩
  load_some := fun {base w D d} ⟨F, h⟩ hb hw fr k hm n s hl => (K.load h (hb.n.more (by decide)) hw fr k (may_wf hb.n.sec hm).1 (may_wf hb.n.sec hm).2 s n 0 (ldG_some (off_j hb) hm hl)).mono fun _ _ ⟨e, F', h', t⟩ => ⟨e, ⟨F', h'⟩, t.b⟩
  save_no := fun {base w D d} ⟨F, h⟩ hb hw fr k hf hk hn s hs => (K.save h (hb.n.more (by decide)) hw fr k hf hk s hs (fun hm => absurd hm hn) 1 d (svG_no hn _)).mono fun _ _ ⟨e, F', h', t⟩ => ⟨e, ⟨F', h'⟩, t.b⟩
  save := fun {base w D d} ⟨F, h⟩ hb hw fr k hm hx s hs e d' he hd => (K.save h (hb.n.more (by decide)) hw fr k (may_wf hb.n.sec hm).1 (may_wf hb.n.sec hm).2 s hs (fun _ => by rw [Int.toNat_natCast, Int.toNat_natCast]; exact hx) e d' (by rw [svG_on hb hm, sl_len, he, hd])).mono fun _ _ ⟨e, F', h', t⟩ => ⟨e, ⟨F', h'⟩, t.b⟩
  size := K.size
  crash := fun {base w D d} ⟨F, S, M, k, E, V, q, h, _⟩ hb hw keep p c hk hy hS hka d' hd => (d_Crash h (hb.n.b (by decide)) keep p c hk hy hS (fun hn a e hf => by have := hka hn a e; have := (h.lt _ hf).1; omega) d' hd).mono
    fun _ _ ⟨e, k', E', V', q', h', t⟩ => ⟨e, ⟨_, _, _, _, _, _, _, h', rfl⟩, t.b⟩
end Go.Proofs.Ytccplgicfbfjiaa
