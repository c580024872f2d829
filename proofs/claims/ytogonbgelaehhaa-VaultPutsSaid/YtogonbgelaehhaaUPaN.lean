/- Requests in two parts: lists and rows (stage 17: VaultParts). -/
import Derived.Test.YtogonbgelaehhaaUGd
namespace Go.Proofs.Ytogonbgelaehhaa
open Go.RowKit
set_option linter.unusedVariables false

theorem allR_len (l : List (ReqU RawV)) : (allR l).2.length = l.length := all_len RawV.id mayR noV _ l
/-- a reply is what the requests ahead of it make of its request -/
theorem allR_at {l : List (ReqU RawV)} {i : Nat} (h : i < l.length) : (allR l).2.getD i (wrongU noV 0) = (appR (allR (l.take i)).1 (l.getD i noQ)).2 := by
  have e : l = l.take (i + 1) ++ l.drop (i + 1) := (List.take_append_drop _ _).symm
  have h1 : (allR l).2 = (allR (l.take (i + 1))).2 ++ (allU RawV.id mayR noV (allR (l.take (i + 1))).1 (l.drop (i + 1))).2 := by
    conv => lhs; rw [e]
    exact congrArg Prod.snd (all_parts RawV.id mayR noV (stU0 noV) (l.take (i + 1)) (l.drop (i + 1)))
  have h2 := allR_take h
  have hl : (allR (l.take i)).2.length = i := by rw [allR_len, List.length_take]; omega
  rw [h1, h2, List.getD_eq_getElem?_getD, List.append_assoc, List.getElem?_append_right (by omega), hl, Nat.sub_self]
  rfl
theorem allR_whole (l : List (ReqU RawV)) : (allR (l.take l.length)).1 = (allR l).1 := by rw [List.take_length]
/-- the first of the requests, as a slice cut at its end -/
theorem ReqsV.taken {w : World} {p : Option Addr} {c n : Nat} {l : List (ReqU RawV)} (h : ReqsV w (.slice p l.length c) l) (hn : n ≤ l.length) : ReqsV w (.slice p n c) (l.take n) := by
  obtain ⟨rows, ⟨hk, p', c', e, hc⟩, h2, h3⟩ := h
  rw [h2] at e
  cases e
  refine ⟨rows.take n, ⟨fun r hr => hk r (List.mem_of_mem_take hr), _, _, by rw [List.length_take, h2, Nat.min_eq_left hn], fun i r hr => ?_⟩, by rw [List.length_take, List.length_take, h2], fun i hi => ?_⟩
  · have hin : i < n := by
      have := (List.getElem?_eq_some_iff.1 hr).1
      rw [List.length_take] at this
      omega
    rw [List.getElem?_take_of_lt hin] at hr
    exact hc i r hr
  · rw [List.length_take] at hi
    obtain ⟨r, q1, q2⟩ := h3 i (by omega)
    refine ⟨r, by rw [List.getElem?_take_of_lt (by omega)]; exact q1, ?_⟩
    rw [List.getD_eq_getElem?_getD, List.getElem?_take_of_lt (by omega), ← List.getD_eq_getElem?_getD]
    exact q2
end Go.Proofs.Ytogonbgelaehhaa
