/-
  No cell of these rows narrows 'for every input' (looked for: loops, veiled, ifaces, maps, wideKeys, modest, calm, conditions, laid).
  DERIVED. THE GIVEN ROWS OF THIS SEAT. 7 by the template 'for every input the law returns true; each argument reads behind the call as it read before'; 0 by the template 'total and deterministic' (their statements: YtgagafefhmofjaaTotals.lean).
  GIVEN WITH THE SEED: the statements are not yours to turn. If you find one false, say at which input.
  Laid BY PROGRAM, IN A SANDBOX (cutbox-rows.mjs): the forced cells as the released guide's own fill.sh prints them over the translation 5d7e31536f35f7f5… (all of the seat's roots in one cut). By AI agents, Wed Nov 11 2026. No macro, syntax, notation, axiom, sorry.
-/
import Derived.Test.YtgagafefhmofjaaChecked
import GoSem.Claim
import GoSem.ClaimJoined
import GoSem.ClaimMapViews
import Derived.JoinedTies
import Derived.KernelRfl
namespace Go.Proofs.Ytgagafefhmofjaa
/- THE CELL 'sum', in the pinned program and in every row, IS THE sha256 OF THE DUMP (.gsa) THAT YtgagafefhmofjaaProg.lean LOADS. Nothing in Lean hashes anything: it is a label: what it is worth is what the hold of that sum in a sandbox is worth. -/
noncomputable def Try.pinned : Pinned := { name := "ytgagafefhmofjaa", sum := "5d7e31536f35f7f5e141c1ebdef0ff8ad7662e59c470db62350f81bd2d8e77ea", checked := Try.checked }
namespace Rows
def none {H : Type} : Left H := { results := [], args := [] }

/-- 'hanaperlaw02.CipherTells': WHATEVER THE INPUT: true; the input reads as it did. -/
def cipherTellsSpec : ChangeSpec := { name := "cipherTells", fn := fun _ => fun
  | [d1, d2, d3, d4, d5] => { results := [.lit (.bool true)], args := [d1, d2, d3, d4, d5] }
  | _ => none }
def cipherTellsRow : OpenClaim := { program := "ytgagafefhmofjaa", sum := "5d7e31536f35f7f5e141c1ebdef0ff8ad7662e59c470db62350f81bd2d8e77ea", func := "hanaper/hanaperlaw02.CipherTells", spec := "cipherTells", unfollowed := true, recurses := true, apart := false }
def CipherTellsSaid : Prop := cipherTellsRow.holds Try.pinned (OpenSpec.ofChange cipherTellsSpec)

/-- ITS FALSE NEIGHBOUR: 'it returns false'. Refute it at one input. -/
def cipherTellsWrong : ChangeSpec := { name := "cipherTells", fn := fun _ => fun
  | [d1, d2, d3, d4, d5] => { results := [.lit (.bool false)], args := [d1, d2, d3, d4, d5] }
  | _ => none }
def CipherTellsWrongFalsely : Prop := cipherTellsRow.holds Try.pinned (OpenSpec.ofChange cipherTellsWrong)

/-- 'hanaperlaw03.StreamTells': WHATEVER THE INPUT: true; the input reads as it did. -/
def streamTellsSpec : ChangeSpec := { name := "streamTells", fn := fun _ => fun
  | [d1, d2, d3, d4] => { results := [.lit (.bool true)], args := [d1, d2, d3, d4] }
  | _ => none }
def streamTellsRow : OpenClaim := { program := "ytgagafefhmofjaa", sum := "5d7e31536f35f7f5e141c1ebdef0ff8ad7662e59c470db62350f81bd2d8e77ea", func := "hanaper/hanaperlaw03.StreamTells", spec := "streamTells", unfollowed := true, recurses := true, apart := false }
def StreamTellsSaid : Prop := streamTellsRow.holds Try.pinned (OpenSpec.ofChange streamTellsSpec)

/-- ITS FALSE NEIGHBOUR: 'it returns false'. Refute it at one input. -/
def streamTellsWrong : ChangeSpec := { name := "streamTells", fn := fun _ => fun
  | [d1, d2, d3, d4] => { results := [.lit (.bool false)], args := [d1, d2, d3, d4] }
  | _ => none }
def StreamTellsWrongFalsely : Prop := streamTellsRow.holds Try.pinned (OpenSpec.ofChange streamTellsWrong)

/-- 'hanaperlaw03.StreamBack': WHATEVER THE INPUT: true; the input reads as it did. -/
def streamBackSpec : ChangeSpec := { name := "streamBack", fn := fun _ => fun
  | [d1, d2, d3] => { results := [.lit (.bool true)], args := [d1, d2, d3] }
  | _ => none }
def streamBackRow : OpenClaim := { program := "ytgagafefhmofjaa", sum := "5d7e31536f35f7f5e141c1ebdef0ff8ad7662e59c470db62350f81bd2d8e77ea", func := "hanaper/hanaperlaw03.StreamBack", spec := "streamBack", unfollowed := true, recurses := true, apart := false }
def StreamBackSaid : Prop := streamBackRow.holds Try.pinned (OpenSpec.ofChange streamBackSpec)

/-- ITS FALSE NEIGHBOUR: 'it returns false'. Refute it at one input. -/
def streamBackWrong : ChangeSpec := { name := "streamBack", fn := fun _ => fun
  | [d1, d2, d3] => { results := [.lit (.bool false)], args := [d1, d2, d3] }
  | _ => none }
def StreamBackWrongFalsely : Prop := streamBackRow.holds Try.pinned (OpenSpec.ofChange streamBackWrong)

/-- 'hanaperlaw03.StreamParts': WHATEVER THE INPUT: true; the input reads as it did. -/
def streamPartsSpec : ChangeSpec := { name := "streamParts", fn := fun _ => fun
  | [d1, d2, d3, d4] => { results := [.lit (.bool true)], args := [d1, d2, d3, d4] }
  | _ => none }
def streamPartsRow : OpenClaim := { program := "ytgagafefhmofjaa", sum := "5d7e31536f35f7f5e141c1ebdef0ff8ad7662e59c470db62350f81bd2d8e77ea", func := "hanaper/hanaperlaw03.StreamParts", spec := "streamParts", unfollowed := true, recurses := true, apart := false }
def StreamPartsSaid : Prop := streamPartsRow.holds Try.pinned (OpenSpec.ofChange streamPartsSpec)

/-- ITS FALSE NEIGHBOUR: 'it returns false'. Refute it at one input. -/
def streamPartsWrong : ChangeSpec := { name := "streamParts", fn := fun _ => fun
  | [d1, d2, d3, d4] => { results := [.lit (.bool false)], args := [d1, d2, d3, d4] }
  | _ => none }
def StreamPartsWrongFalsely : Prop := streamPartsRow.holds Try.pinned (OpenSpec.ofChange streamPartsWrong)

/-- 'hanaperlaw03.StreamCounts': WHATEVER THE INPUT: true; the input reads as it did. -/
def streamCountsSpec : ChangeSpec := { name := "streamCounts", fn := fun _ => fun
  | [d1, d2, d3] => { results := [.lit (.bool true)], args := [d1, d2, d3] }
  | _ => none }
def streamCountsRow : OpenClaim := { program := "ytgagafefhmofjaa", sum := "5d7e31536f35f7f5e141c1ebdef0ff8ad7662e59c470db62350f81bd2d8e77ea", func := "hanaper/hanaperlaw03.StreamCounts", spec := "streamCounts", unfollowed := true, recurses := true, apart := false }
def StreamCountsSaid : Prop := streamCountsRow.holds Try.pinned (OpenSpec.ofChange streamCountsSpec)

/-- ITS FALSE NEIGHBOUR: 'it returns false'. Refute it at one input. -/
def streamCountsWrong : ChangeSpec := { name := "streamCounts", fn := fun _ => fun
  | [d1, d2, d3] => { results := [.lit (.bool false)], args := [d1, d2, d3] }
  | _ => none }
def StreamCountsWrongFalsely : Prop := streamCountsRow.holds Try.pinned (OpenSpec.ofChange streamCountsWrong)

/-- 'hanaperlaw03.StreamXor': WHATEVER THE INPUT: true; the input reads as it did. -/
def streamXorSpec : ChangeSpec := { name := "streamXor", fn := fun _ => fun
  | [d1, d2, d3, d4] => { results := [.lit (.bool true)], args := [d1, d2, d3, d4] }
  | _ => none }
def streamXorRow : OpenClaim := { program := "ytgagafefhmofjaa", sum := "5d7e31536f35f7f5e141c1ebdef0ff8ad7662e59c470db62350f81bd2d8e77ea", func := "hanaper/hanaperlaw03.StreamXor", spec := "streamXor", unfollowed := true, recurses := true, apart := false }
def StreamXorSaid : Prop := streamXorRow.holds Try.pinned (OpenSpec.ofChange streamXorSpec)

/-- ITS FALSE NEIGHBOUR: 'it returns false'. Refute it at one input. -/
def streamXorWrong : ChangeSpec := { name := "streamXor", fn := fun _ => fun
  | [d1, d2, d3, d4] => { results := [.lit (.bool false)], args := [d1, d2, d3, d4] }
  | _ => none }
def StreamXorWrongFalsely : Prop := streamXorRow.holds Try.pinned (OpenSpec.ofChange streamXorWrong)

/-- 'hanaperlaw03.StreamFirst': WHATEVER THE INPUT: true; the input reads as it did. -/
def streamFirstSpec : ChangeSpec := { name := "streamFirst", fn := fun _ => fun
  | [d1, d2, d3] => { results := [.lit (.bool true)], args := [d1, d2, d3] }
  | _ => none }
def streamFirstRow : OpenClaim := { program := "ytgagafefhmofjaa", sum := "5d7e31536f35f7f5e141c1ebdef0ff8ad7662e59c470db62350f81bd2d8e77ea", func := "hanaper/hanaperlaw03.StreamFirst", spec := "streamFirst", unfollowed := true, recurses := true, apart := false }
def StreamFirstSaid : Prop := streamFirstRow.holds Try.pinned (OpenSpec.ofChange streamFirstSpec)

/-- ITS FALSE NEIGHBOUR: 'it returns false'. Refute it at one input. -/
def streamFirstWrong : ChangeSpec := { name := "streamFirst", fn := fun _ => fun
  | [d1, d2, d3] => { results := [.lit (.bool false)], args := [d1, d2, d3] }
  | _ => none }
def StreamFirstWrongFalsely : Prop := streamFirstRow.holds Try.pinned (OpenSpec.ofChange streamFirstWrong)

/- THE SECOND FORM. 'bulk': how many values and letters a reading holds, each counted each time it is reached (what is shared counts as often as it is met; a slice's spare places count too). A statement '..UptoSaid' is the law's where the arguments, and the package variables that the reading takes, are together of bulk at most 1048576: NARROWER than '..Said'. Prove '..Said' where nothing that the law and all that it calls make is longer than what came in: it says more and counts as full. Else prove '..UptoSaid'. A law counts once. -/
mutual
def uptoBulk {H : Type} : DataW H → Nat
  | .lit (.string bytes) => bytes.length + 1
  | .lit _ => 1
  | .nil => 1
  | .ptr d => uptoBulk d + 1
  | .slice elems spare => uptoBulkAll elems + uptoBulkAll spare + 1
  | .agg parts => uptoBulkAll parts + 1
  | .iface _ d => uptoBulk d + 1
  | .map entries => uptoBulkEntries entries + 1
  | .held _ => 1
def uptoBulkAll {H : Type} : List (DataW H) → Nat
  | [] => 0
  | d :: r => uptoBulk d + uptoBulkAll r
def uptoBulkEntries {H : Type} : List (Lit × DataW H) → Nat
  | [] => 0
  | x :: r => uptoBulkEntry x + uptoBulkEntries r
def uptoBulkEntry {H : Type} : Lit × DataW H → Nat
  | (.string bytes, d) => bytes.length + uptoBulk d + 1
  | (_, d) => uptoBulk d + 1
 end
def uptoSmall : (H : Type) → List (DataW H) → Bool := fun _ ds => decide (uptoBulkAll ds ≤ 1048576)
def OpenSpec.upto (s : _root_.Go.ChangeSpec) : _root_.Go.OpenSpec := { _root_.Go.OpenSpec.ofChange s with cond := some uptoSmall }

/-- 'hanaperlaw02.CipherTells', WHERE WHAT IT READS IS OF BULK AT MOST 1048576: true; the input reads as it did. -/
def cipherTellsUptoRow : OpenClaim := { program := "ytgagafefhmofjaa", sum := "5d7e31536f35f7f5e141c1ebdef0ff8ad7662e59c470db62350f81bd2d8e77ea", func := "hanaper/hanaperlaw02.CipherTells", spec := "cipherTells", unfollowed := true, recurses := true, apart := false, narrowed := true }
def CipherTellsUptoSaid : Prop := cipherTellsUptoRow.holds Try.pinned (OpenSpec.upto cipherTellsSpec)

/-- 'hanaperlaw03.StreamTells', WHERE WHAT IT READS IS OF BULK AT MOST 1048576: true; the input reads as it did. -/
def streamTellsUptoRow : OpenClaim := { program := "ytgagafefhmofjaa", sum := "5d7e31536f35f7f5e141c1ebdef0ff8ad7662e59c470db62350f81bd2d8e77ea", func := "hanaper/hanaperlaw03.StreamTells", spec := "streamTells", unfollowed := true, recurses := true, apart := false, narrowed := true }
def StreamTellsUptoSaid : Prop := streamTellsUptoRow.holds Try.pinned (OpenSpec.upto streamTellsSpec)

/-- 'hanaperlaw03.StreamBack', WHERE WHAT IT READS IS OF BULK AT MOST 1048576: true; the input reads as it did. -/
def streamBackUptoRow : OpenClaim := { program := "ytgagafefhmofjaa", sum := "5d7e31536f35f7f5e141c1ebdef0ff8ad7662e59c470db62350f81bd2d8e77ea", func := "hanaper/hanaperlaw03.StreamBack", spec := "streamBack", unfollowed := true, recurses := true, apart := false, narrowed := true }
def StreamBackUptoSaid : Prop := streamBackUptoRow.holds Try.pinned (OpenSpec.upto streamBackSpec)

/-- 'hanaperlaw03.StreamParts', WHERE WHAT IT READS IS OF BULK AT MOST 1048576: true; the input reads as it did. -/
def streamPartsUptoRow : OpenClaim := { program := "ytgagafefhmofjaa", sum := "5d7e31536f35f7f5e141c1ebdef0ff8ad7662e59c470db62350f81bd2d8e77ea", func := "hanaper/hanaperlaw03.StreamParts", spec := "streamParts", unfollowed := true, recurses := true, apart := false, narrowed := true }
def StreamPartsUptoSaid : Prop := streamPartsUptoRow.holds Try.pinned (OpenSpec.upto streamPartsSpec)

/-- 'hanaperlaw03.StreamCounts', WHERE WHAT IT READS IS OF BULK AT MOST 1048576: true; the input reads as it did. -/
def streamCountsUptoRow : OpenClaim := { program := "ytgagafefhmofjaa", sum := "5d7e31536f35f7f5e141c1ebdef0ff8ad7662e59c470db62350f81bd2d8e77ea", func := "hanaper/hanaperlaw03.StreamCounts", spec := "streamCounts", unfollowed := true, recurses := true, apart := false, narrowed := true }
def StreamCountsUptoSaid : Prop := streamCountsUptoRow.holds Try.pinned (OpenSpec.upto streamCountsSpec)

/-- 'hanaperlaw03.StreamXor', WHERE WHAT IT READS IS OF BULK AT MOST 1048576: true; the input reads as it did. -/
def streamXorUptoRow : OpenClaim := { program := "ytgagafefhmofjaa", sum := "5d7e31536f35f7f5e141c1ebdef0ff8ad7662e59c470db62350f81bd2d8e77ea", func := "hanaper/hanaperlaw03.StreamXor", spec := "streamXor", unfollowed := true, recurses := true, apart := false, narrowed := true }
def StreamXorUptoSaid : Prop := streamXorUptoRow.holds Try.pinned (OpenSpec.upto streamXorSpec)

/-- 'hanaperlaw03.StreamFirst', WHERE WHAT IT READS IS OF BULK AT MOST 1048576: true; the input reads as it did. -/
def streamFirstUptoRow : OpenClaim := { program := "ytgagafefhmofjaa", sum := "5d7e31536f35f7f5e141c1ebdef0ff8ad7662e59c470db62350f81bd2d8e77ea", func := "hanaper/hanaperlaw03.StreamFirst", spec := "streamFirst", unfollowed := true, recurses := true, apart := false, narrowed := true }
def StreamFirstUptoSaid : Prop := streamFirstUptoRow.holds Try.pinned (OpenSpec.upto streamFirstSpec)

end Rows
end Go.Proofs.Ytgagafefhmofjaa
