/-
  No cell of these rows narrows 'for every input' (looked for: loops, veiled, ifaces, maps, wideKeys, modest, calm, conditions, laid).
  DERIVED. THE GIVEN ROWS OF THIS SEAT. 4 by the template 'for every input the law returns true; each argument reads behind the call as it read before'; 0 by the template 'total and deterministic' (their statements: YtccplgicfbfjiaaTotals.lean).
  GIVEN WITH THE SEED: the statements are not yours to turn. If you find one false, say at which input.
  Laid BY PROGRAM, IN A SANDBOX (cutbox-rows.mjs): the forced cells as the released guide's own fill.sh prints them over the translation 7f2f30d7155489fc… (all of the seat's roots in one cut). By AI agents, Wed Nov 11 2026. No macro, syntax, notation, axiom, sorry.
-/
import Derived.Test.YtccplgicfbfjiaaChecked
import GoSem.Claim
import GoSem.ClaimJoined
import GoSem.ClaimMapViews
import Derived.JoinedTies
import Derived.KernelRfl
namespace Go.Proofs.Ytccplgicfbfjiaa
/- THE CELL 'sum', in the pinned program and in every row, IS THE sha256 OF THE DUMP (.gsa) THAT YtccplgicfbfjiaaProg.lean LOADS. Nothing in Lean hashes anything: it is a label: what it is worth is what the hold of that sum in a sandbox is worth. -/
noncomputable def Try.pinned : Pinned := { name := "ytccplgicfbfjiaa", sum := "7f2f30d7155489fc91b64b68f7877f9ac8aef9c2523edaa6991c9bf9af248f9a", checked := Try.checked }
namespace Rows
def none {H : Type} : Left H := { results := [], args := [] }

/-- 'hanaperlaw16.SlotsKeeps': WHATEVER THE INPUT: true; the input reads as it did. -/
def slotsKeepsSpec : ChangeSpec := { name := "slotsKeeps", fn := fun _ => fun
  | [d1, d2, d3] => { results := [.lit (.bool true)], args := [d1, d2, d3] }
  | _ => none }
def slotsKeepsRow : OpenClaim := { program := "ytccplgicfbfjiaa", sum := "7f2f30d7155489fc91b64b68f7877f9ac8aef9c2523edaa6991c9bf9af248f9a", func := "hanaper/hanaperlaw16.SlotsKeeps", spec := "slotsKeeps", inPlace := ["internal/abi.NoEscape", "internal/bytealg.MakeNoZero"], unfollowed := true, recurses := true, apart := false }
def SlotsKeepsSaid : Prop := slotsKeepsRow.holds Try.pinned (OpenSpec.ofChange slotsKeepsSpec)

/-- ITS FALSE NEIGHBOUR: 'it returns false'. Refute it at one input. -/
def slotsKeepsWrong : ChangeSpec := { name := "slotsKeeps", fn := fun _ => fun
  | [d1, d2, d3] => { results := [.lit (.bool false)], args := [d1, d2, d3] }
  | _ => none }
def SlotsKeepsWrongFalsely : Prop := slotsKeepsRow.holds Try.pinned (OpenSpec.ofChange slotsKeepsWrong)

/-- 'hanaperlaw16.SlotsFirst': WHATEVER THE INPUT: true; the input reads as it did. -/
def slotsFirstSpec : ChangeSpec := { name := "slotsFirst", fn := fun _ => fun
  | [d1, d2, d3, d4] => { results := [.lit (.bool true)], args := [d1, d2, d3, d4] }
  | _ => none }
def slotsFirstRow : OpenClaim := { program := "ytccplgicfbfjiaa", sum := "7f2f30d7155489fc91b64b68f7877f9ac8aef9c2523edaa6991c9bf9af248f9a", func := "hanaper/hanaperlaw16.SlotsFirst", spec := "slotsFirst", inPlace := ["internal/abi.NoEscape", "internal/bytealg.MakeNoZero"], unfollowed := true, recurses := true, apart := false }
def SlotsFirstSaid : Prop := slotsFirstRow.holds Try.pinned (OpenSpec.ofChange slotsFirstSpec)

/-- ITS FALSE NEIGHBOUR: 'it returns false'. Refute it at one input. -/
def slotsFirstWrong : ChangeSpec := { name := "slotsFirst", fn := fun _ => fun
  | [d1, d2, d3, d4] => { results := [.lit (.bool false)], args := [d1, d2, d3, d4] }
  | _ => none }
def SlotsFirstWrongFalsely : Prop := slotsFirstRow.holds Try.pinned (OpenSpec.ofChange slotsFirstWrong)

/-- 'hanaperlaw16.SlotsSizes': WHATEVER THE INPUT: true; the input reads as it did. -/
def slotsSizesSpec : ChangeSpec := { name := "slotsSizes", fn := fun _ => fun
  | [d1, d2] => { results := [.lit (.bool true)], args := [d1, d2] }
  | _ => none }
def slotsSizesRow : OpenClaim := { program := "ytccplgicfbfjiaa", sum := "7f2f30d7155489fc91b64b68f7877f9ac8aef9c2523edaa6991c9bf9af248f9a", func := "hanaper/hanaperlaw16.SlotsSizes", spec := "slotsSizes", inPlace := ["internal/abi.NoEscape", "internal/bytealg.MakeNoZero"], unfollowed := true, recurses := true, apart := false }
def SlotsSizesSaid : Prop := slotsSizesRow.holds Try.pinned (OpenSpec.ofChange slotsSizesSpec)

/-- ITS FALSE NEIGHBOUR: 'it returns false'. Refute it at one input. -/
def slotsSizesWrong : ChangeSpec := { name := "slotsSizes", fn := fun _ => fun
  | [d1, d2] => { results := [.lit (.bool false)], args := [d1, d2] }
  | _ => none }
def SlotsSizesWrongFalsely : Prop := slotsSizesRow.holds Try.pinned (OpenSpec.ofChange slotsSizesWrong)

/-- 'hanaperlaw16.SlotsArgs': WHATEVER THE INPUT: true; the input reads as it did. -/
def slotsArgsSpec : ChangeSpec := { name := "slotsArgs", fn := fun _ => fun
  | [d1, d2, d3] => { results := [.lit (.bool true)], args := [d1, d2, d3] }
  | _ => none }
def slotsArgsRow : OpenClaim := { program := "ytccplgicfbfjiaa", sum := "7f2f30d7155489fc91b64b68f7877f9ac8aef9c2523edaa6991c9bf9af248f9a", func := "hanaper/hanaperlaw16.SlotsArgs", spec := "slotsArgs", inPlace := ["internal/abi.NoEscape", "internal/bytealg.MakeNoZero"], unfollowed := true, recurses := true, apart := false }
def SlotsArgsSaid : Prop := slotsArgsRow.holds Try.pinned (OpenSpec.ofChange slotsArgsSpec)

/-- ITS FALSE NEIGHBOUR: 'it returns false'. Refute it at one input. -/
def slotsArgsWrong : ChangeSpec := { name := "slotsArgs", fn := fun _ => fun
  | [d1, d2, d3] => { results := [.lit (.bool false)], args := [d1, d2, d3] }
  | _ => none }
def SlotsArgsWrongFalsely : Prop := slotsArgsRow.holds Try.pinned (OpenSpec.ofChange slotsArgsWrong)

/- THE SECOND FORM. 'bulk': how many values and letters a reading holds, each counted each time it is reached (what is shared counts as often as it is met; a slice's spare places count too). A statement '..UptoSaid' is the law's where the arguments, and the package variables that the reading takes, are together of bulk at most 1048576: NARROWER than '..Said'. Prove '..Said' where nothing that the law and all that it calls make is longer than what came in: it says more and counts as full. Else prove '..UptoSaid'. A law counts once. -/
mutual
def uptoBulk {H : Type} : DataW H → Nat
  | .lit (.string bytes) => bytes.length + 1
  | .lit _ => 1
  | .nil => 1
  | .ptr d => uptoBulk d + 1
  | .slice elems spare => uptoBulkAll elems + uptoBulkAll spare + 1
  | .agg parts => uptoBulkAll parts + 1
  | .iface _ d => uptoBulk d + 1
  | .map entries => uptoBulkEntries entries + 1
  | .held _ => 1
def uptoBulkAll {H : Type} : List (DataW H) → Nat
  | [] => 0
  | d :: r => uptoBulk d + uptoBulkAll r
def uptoBulkEntries {H : Type} : List (Lit × DataW H) → Nat
  | [] => 0
  | x :: r => uptoBulkEntry x + uptoBulkEntries r
def uptoBulkEntry {H : Type} : Lit × DataW H → Nat
  | (.string bytes, d) => bytes.length + uptoBulk d + 1
  | (_, d) => uptoBulk d + 1
 end
def uptoSmall : (H : Type) → List (DataW H) → Bool := fun _ ds => decide (uptoBulkAll ds ≤ 1048576)
def OpenSpec.upto (s : _root_.Go.ChangeSpec) : _root_.Go.OpenSpec := { _root_.Go.OpenSpec.ofChange s with cond := some uptoSmall }

/-- 'hanaperlaw16.SlotsKeeps', WHERE WHAT IT READS IS OF BULK AT MOST 1048576: true; the input reads as it did. -/
def slotsKeepsUptoRow : OpenClaim := { program := "ytccplgicfbfjiaa", sum := "7f2f30d7155489fc91b64b68f7877f9ac8aef9c2523edaa6991c9bf9af248f9a", func := "hanaper/hanaperlaw16.SlotsKeeps", spec := "slotsKeeps", inPlace := ["internal/abi.NoEscape", "internal/bytealg.MakeNoZero"], unfollowed := true, recurses := true, apart := false, narrowed := true }
def SlotsKeepsUptoSaid : Prop := slotsKeepsUptoRow.holds Try.pinned (OpenSpec.upto slotsKeepsSpec)

/-- 'hanaperlaw16.SlotsFirst', WHERE WHAT IT READS IS OF BULK AT MOST 1048576: true; the input reads as it did. -/
def slotsFirstUptoRow : OpenClaim := { program := "ytccplgicfbfjiaa", sum := "7f2f30d7155489fc91b64b68f7877f9ac8aef9c2523edaa6991c9bf9af248f9a", func := "hanaper/hanaperlaw16.SlotsFirst", spec := "slotsFirst", inPlace := ["internal/abi.NoEscape", "internal/bytealg.MakeNoZero"], unfollowed := true, recurses := true, apart := false, narrowed := true }
def SlotsFirstUptoSaid : Prop := slotsFirstUptoRow.holds Try.pinned (OpenSpec.upto slotsFirstSpec)

/-- 'hanaperlaw16.SlotsSizes', WHERE WHAT IT READS IS OF BULK AT MOST 1048576: true; the input reads as it did. -/
def slotsSizesUptoRow : OpenClaim := { program := "ytccplgicfbfjiaa", sum := "7f2f30d7155489fc91b64b68f7877f9ac8aef9c2523edaa6991c9bf9af248f9a", func := "hanaper/hanaperlaw16.SlotsSizes", spec := "slotsSizes", inPlace := ["internal/abi.NoEscape", "internal/bytealg.MakeNoZero"], unfollowed := true, recurses := true, apart := false, narrowed := true }
def SlotsSizesUptoSaid : Prop := slotsSizesUptoRow.holds Try.pinned (OpenSpec.upto slotsSizesSpec)

/-- 'hanaperlaw16.SlotsArgs', WHERE WHAT IT READS IS OF BULK AT MOST 1048576: true; the input reads as it did. -/
def slotsArgsUptoRow : OpenClaim := { program := "ytccplgicfbfjiaa", sum := "7f2f30d7155489fc91b64b68f7877f9ac8aef9c2523edaa6991c9bf9af248f9a", func := "hanaper/hanaperlaw16.SlotsArgs", spec := "slotsArgs", inPlace := ["internal/abi.NoEscape", "internal/bytealg.MakeNoZero"], unfollowed := true, recurses := true, apart := false, narrowed := true }
def SlotsArgsUptoSaid : Prop := slotsArgsUptoRow.holds Try.pinned (OpenSpec.upto slotsArgsSpec)

end Rows
end Go.Proofs.Ytccplgicfbfjiaa
