/-
  No cell of these rows narrows 'for every input' (looked for: loops, veiled, ifaces, maps, wideKeys, modest, calm, conditions, laid).
  DERIVED. THE GIVEN ROWS OF THIS SEAT. 7 by the template 'for every input the law returns true; each argument reads behind the call as it read before'; 0 by the template 'total and deterministic' (their statements: YthnmkniimokdiaaTotals.lean).
  GIVEN WITH THE SEED: the statements are not yours to turn. If you find one false, say at which input.
  Laid BY PROGRAM, IN A SANDBOX (cutbox-rows.mjs): the forced cells as the released guide's own fill.sh prints them over the translation 6af5a5c12645192c… (all of the seat's roots in one cut). By AI agents, Wed Nov 11 2026. No macro, syntax, notation, axiom, sorry.
-/
import Derived.Test.YthnmkniimokdiaaChecked
import GoSem.Claim
import GoSem.ClaimJoined
import GoSem.ClaimMapViews
import Derived.JoinedTies
import Derived.KernelRfl
namespace Go.Proofs.Ythnmkniimokdiaa
/- THE CELL 'sum', in the pinned program and in every row, IS THE sha256 OF THE DUMP (.gsa) THAT YthnmkniimokdiaaProg.lean LOADS. Nothing in Lean hashes anything: it is a label: what it is worth is what the hold of that sum in a sandbox is worth. -/
noncomputable def Try.pinned : Pinned := { name := "ythnmkniimokdiaa", sum := "6af5a5c12645192cdba6f26396ba8141e19de1cdf5bdedab2d7ca403082e69bf", checked := Try.checked }
namespace Rows
def none {H : Type} : Left H := { results := [], args := [] }

/-- 'hanaperlaw02.CipherTells': WHATEVER THE INPUT: true; the input reads as it did. -/
def cipherTellsSpec : ChangeSpec := { name := "cipherTells", fn := fun _ => fun
  | [d1, d2, d3, d4, d5] => { results := [.lit (.bool true)], args := [d1, d2, d3, d4, d5] }
  | _ => none }
def cipherTellsRow : OpenClaim := { program := "ythnmkniimokdiaa", sum := "6af5a5c12645192cdba6f26396ba8141e19de1cdf5bdedab2d7ca403082e69bf", func := "hanaper/hanaperlaw02.CipherTells", spec := "cipherTells", unfollowed := true, recurses := true, apart := false }
def CipherTellsSaid : Prop := cipherTellsRow.holds Try.pinned (OpenSpec.ofChange cipherTellsSpec)

/-- ITS FALSE NEIGHBOUR: 'it returns false'. Refute it at one input. -/
def cipherTellsWrong : ChangeSpec := { name := "cipherTells", fn := fun _ => fun
  | [d1, d2, d3, d4, d5] => { results := [.lit (.bool false)], args := [d1, d2, d3, d4, d5] }
  | _ => none }
def CipherTellsWrongFalsely : Prop := cipherTellsRow.holds Try.pinned (OpenSpec.ofChange cipherTellsWrong)

/-- 'hanaperlaw02.CipherBox': WHATEVER THE INPUT: true; the input reads as it did. -/
def cipherBoxSpec : ChangeSpec := { name := "cipherBox", fn := fun _ => fun
  | [d1, d2] => { results := [.lit (.bool true)], args := [d1, d2] }
  | _ => none }
def cipherBoxRow : OpenClaim := { program := "ythnmkniimokdiaa", sum := "6af5a5c12645192cdba6f26396ba8141e19de1cdf5bdedab2d7ca403082e69bf", func := "hanaper/hanaperlaw02.CipherBox", spec := "cipherBox", apart := false }
def CipherBoxSaid : Prop := cipherBoxRow.holds Try.pinned (OpenSpec.ofChange cipherBoxSpec)

/-- ITS FALSE NEIGHBOUR: 'it returns false'. Refute it at one input. -/
def cipherBoxWrong : ChangeSpec := { name := "cipherBox", fn := fun _ => fun
  | [d1, d2] => { results := [.lit (.bool false)], args := [d1, d2] }
  | _ => none }
def CipherBoxWrongFalsely : Prop := cipherBoxRow.holds Try.pinned (OpenSpec.ofChange cipherBoxWrong)

/-- 'hanaperlaw02.CipherField': WHATEVER THE INPUT: true; the input reads as it did. -/
def cipherFieldSpec : ChangeSpec := { name := "cipherField", fn := fun _ => fun
  | [d1, d2, d3] => { results := [.lit (.bool true)], args := [d1, d2, d3] }
  | _ => none }
def cipherFieldRow : OpenClaim := { program := "ythnmkniimokdiaa", sum := "6af5a5c12645192cdba6f26396ba8141e19de1cdf5bdedab2d7ca403082e69bf", func := "hanaper/hanaperlaw02.CipherField", spec := "cipherField", unfollowed := true, recurses := true, apart := false }
def CipherFieldSaid : Prop := cipherFieldRow.holds Try.pinned (OpenSpec.ofChange cipherFieldSpec)

/-- ITS FALSE NEIGHBOUR: 'it returns false'. Refute it at one input. -/
def cipherFieldWrong : ChangeSpec := { name := "cipherField", fn := fun _ => fun
  | [d1, d2, d3] => { results := [.lit (.bool false)], args := [d1, d2, d3] }
  | _ => none }
def CipherFieldWrongFalsely : Prop := cipherFieldRow.holds Try.pinned (OpenSpec.ofChange cipherFieldWrong)

/-- 'hanaperlaw02.CipherApart': WHATEVER THE INPUT: true; the input reads as it did. -/
def cipherApartSpec : ChangeSpec := { name := "cipherApart", fn := fun _ => fun
  | [d1, d2, d3] => { results := [.lit (.bool true)], args := [d1, d2, d3] }
  | _ => none }
def cipherApartRow : OpenClaim := { program := "ythnmkniimokdiaa", sum := "6af5a5c12645192cdba6f26396ba8141e19de1cdf5bdedab2d7ca403082e69bf", func := "hanaper/hanaperlaw02.CipherApart", spec := "cipherApart", unfollowed := true, recurses := true, apart := false }
def CipherApartSaid : Prop := cipherApartRow.holds Try.pinned (OpenSpec.ofChange cipherApartSpec)

/-- ITS FALSE NEIGHBOUR: 'it returns false'. Refute it at one input. -/
def cipherApartWrong : ChangeSpec := { name := "cipherApart", fn := fun _ => fun
  | [d1, d2, d3] => { results := [.lit (.bool false)], args := [d1, d2, d3] }
  | _ => none }
def CipherApartWrongFalsely : Prop := cipherApartRow.holds Try.pinned (OpenSpec.ofChange cipherApartWrong)

/-- 'hanaperlaw02.CipherKeys': WHATEVER THE INPUT: true; the input reads as it did. -/
def cipherKeysSpec : ChangeSpec := { name := "cipherKeys", fn := fun _ => fun
  | [d1, d2, d3] => { results := [.lit (.bool true)], args := [d1, d2, d3] }
  | _ => none }
def cipherKeysRow : OpenClaim := { program := "ythnmkniimokdiaa", sum := "6af5a5c12645192cdba6f26396ba8141e19de1cdf5bdedab2d7ca403082e69bf", func := "hanaper/hanaperlaw02.CipherKeys", spec := "cipherKeys", unfollowed := true, recurses := true, apart := false }
def CipherKeysSaid : Prop := cipherKeysRow.holds Try.pinned (OpenSpec.ofChange cipherKeysSpec)

/-- ITS FALSE NEIGHBOUR: 'it returns false'. Refute it at one input. -/
def cipherKeysWrong : ChangeSpec := { name := "cipherKeys", fn := fun _ => fun
  | [d1, d2, d3] => { results := [.lit (.bool false)], args := [d1, d2, d3] }
  | _ => none }
def CipherKeysWrongFalsely : Prop := cipherKeysRow.holds Try.pinned (OpenSpec.ofChange cipherKeysWrong)

/-- 'hanaperlaw02.CipherPowers': WHATEVER THE INPUT: true; the input reads as it did. -/
def cipherPowersSpec : ChangeSpec := { name := "cipherPowers", fn := fun _ => fun
  | [d1, d2] => { results := [.lit (.bool true)], args := [d1, d2] }
  | _ => none }
def cipherPowersRow : OpenClaim := { program := "ythnmkniimokdiaa", sum := "6af5a5c12645192cdba6f26396ba8141e19de1cdf5bdedab2d7ca403082e69bf", func := "hanaper/hanaperlaw02.CipherPowers", spec := "cipherPowers", apart := false }
def CipherPowersSaid : Prop := cipherPowersRow.holds Try.pinned (OpenSpec.ofChange cipherPowersSpec)

/-- ITS FALSE NEIGHBOUR: 'it returns false'. Refute it at one input. -/
def cipherPowersWrong : ChangeSpec := { name := "cipherPowers", fn := fun _ => fun
  | [d1, d2] => { results := [.lit (.bool false)], args := [d1, d2] }
  | _ => none }
def CipherPowersWrongFalsely : Prop := cipherPowersRow.holds Try.pinned (OpenSpec.ofChange cipherPowersWrong)

/-- 'hanaperlaw02.CipherLinear': WHATEVER THE INPUT: true; the input reads as it did. -/
def cipherLinearSpec : ChangeSpec := { name := "cipherLinear", fn := fun _ => fun
  | [d1, d2, d3, d4] => { results := [.lit (.bool true)], args := [d1, d2, d3, d4] }
  | _ => none }
def cipherLinearRow : OpenClaim := { program := "ythnmkniimokdiaa", sum := "6af5a5c12645192cdba6f26396ba8141e19de1cdf5bdedab2d7ca403082e69bf", func := "hanaper/hanaperlaw02.CipherLinear", spec := "cipherLinear", unfollowed := true, recurses := true, apart := false }
def CipherLinearSaid : Prop := cipherLinearRow.holds Try.pinned (OpenSpec.ofChange cipherLinearSpec)

/-- ITS FALSE NEIGHBOUR: 'it returns false'. Refute it at one input. -/
def cipherLinearWrong : ChangeSpec := { name := "cipherLinear", fn := fun _ => fun
  | [d1, d2, d3, d4] => { results := [.lit (.bool false)], args := [d1, d2, d3, d4] }
  | _ => none }
def CipherLinearWrongFalsely : Prop := cipherLinearRow.holds Try.pinned (OpenSpec.ofChange cipherLinearWrong)

/- THE SECOND FORM. 'bulk': how many values and letters a reading holds, each counted each time it is reached (what is shared counts as often as it is met; a slice's spare places count too). A statement '..UptoSaid' is the law's where the arguments, and the package variables that the reading takes, are together of bulk at most 1048576: NARROWER than '..Said'. Prove '..Said' where nothing that the law and all that it calls make is longer than what came in: it says more and counts as full. Else prove '..UptoSaid'. A law counts once. -/
mutual
def uptoBulk {H : Type} : DataW H → Nat
  | .lit (.string bytes) => bytes.length + 1
  | .lit _ => 1
  | .nil => 1
  | .ptr d => uptoBulk d + 1
  | .slice elems spare => uptoBulkAll elems + uptoBulkAll spare + 1
  | .agg parts => uptoBulkAll parts + 1
  | .iface _ d => uptoBulk d + 1
  | .map entries => uptoBulkEntries entries + 1
  | .held _ => 1
def uptoBulkAll {H : Type} : List (DataW H) → Nat
  | [] => 0
  | d :: r => uptoBulk d + uptoBulkAll r
def uptoBulkEntries {H : Type} : List (Lit × DataW H) → Nat
  | [] => 0
  | x :: r => uptoBulkEntry x + uptoBulkEntries r
def uptoBulkEntry {H : Type} : Lit × DataW H → Nat
  | (.string bytes, d) => bytes.length + uptoBulk d + 1
  | (_, d) => uptoBulk d + 1
 end
def uptoSmall : (H : Type) → List (DataW H) → Bool := fun _ ds => decide (uptoBulkAll ds ≤ 1048576)
def OpenSpec.upto (s : _root_.Go.ChangeSpec) : _root_.Go.OpenSpec := { _root_.Go.OpenSpec.ofChange s with cond := some uptoSmall }

/-- 'hanaperlaw02.CipherTells', WHERE WHAT IT READS IS OF BULK AT MOST 1048576: true; the input reads as it did. -/
def cipherTellsUptoRow : OpenClaim := { program := "ythnmkniimokdiaa", sum := "6af5a5c12645192cdba6f26396ba8141e19de1cdf5bdedab2d7ca403082e69bf", func := "hanaper/hanaperlaw02.CipherTells", spec := "cipherTells", unfollowed := true, recurses := true, apart := false, narrowed := true }
def CipherTellsUptoSaid : Prop := cipherTellsUptoRow.holds Try.pinned (OpenSpec.upto cipherTellsSpec)

/-- 'hanaperlaw02.CipherBox', WHERE WHAT IT READS IS OF BULK AT MOST 1048576: true; the input reads as it did. -/
def cipherBoxUptoRow : OpenClaim := { program := "ythnmkniimokdiaa", sum := "6af5a5c12645192cdba6f26396ba8141e19de1cdf5bdedab2d7ca403082e69bf", func := "hanaper/hanaperlaw02.CipherBox", spec := "cipherBox", apart := false, narrowed := true }
def CipherBoxUptoSaid : Prop := cipherBoxUptoRow.holds Try.pinned (OpenSpec.upto cipherBoxSpec)

/-- 'hanaperlaw02.CipherField', WHERE WHAT IT READS IS OF BULK AT MOST 1048576: true; the input reads as it did. -/
def cipherFieldUptoRow : OpenClaim := { program := "ythnmkniimokdiaa", sum := "6af5a5c12645192cdba6f26396ba8141e19de1cdf5bdedab2d7ca403082e69bf", func := "hanaper/hanaperlaw02.CipherField", spec := "cipherField", unfollowed := true, recurses := true, apart := false, narrowed := true }
def CipherFieldUptoSaid : Prop := cipherFieldUptoRow.holds Try.pinned (OpenSpec.upto cipherFieldSpec)

/-- 'hanaperlaw02.CipherApart', WHERE WHAT IT READS IS OF BULK AT MOST 1048576: true; the input reads as it did. -/
def cipherApartUptoRow : OpenClaim := { program := "ythnmkniimokdiaa", sum := "6af5a5c12645192cdba6f26396ba8141e19de1cdf5bdedab2d7ca403082e69bf", func := "hanaper/hanaperlaw02.CipherApart", spec := "cipherApart", unfollowed := true, recurses := true, apart := false, narrowed := true }
def CipherApartUptoSaid : Prop := cipherApartUptoRow.holds Try.pinned (OpenSpec.upto cipherApartSpec)

/-- 'hanaperlaw02.CipherKeys', WHERE WHAT IT READS IS OF BULK AT MOST 1048576: true; the input reads as it did. -/
def cipherKeysUptoRow : OpenClaim := { program := "ythnmkniimokdiaa", sum := "6af5a5c12645192cdba6f26396ba8141e19de1cdf5bdedab2d7ca403082e69bf", func := "hanaper/hanaperlaw02.CipherKeys", spec := "cipherKeys", unfollowed := true, recurses := true, apart := false, narrowed := true }
def CipherKeysUptoSaid : Prop := cipherKeysUptoRow.holds Try.pinned (OpenSpec.upto cipherKeysSpec)

/-- 'hanaperlaw02.CipherPowers', WHERE WHAT IT READS IS OF BULK AT MOST 1048576: true; the input reads as it did. -/
def cipherPowersUptoRow : OpenClaim := { program := "ythnmkniimokdiaa", sum := "6af5a5c12645192cdba6f26396ba8141e19de1cdf5bdedab2d7ca403082e69bf", func := "hanaper/hanaperlaw02.CipherPowers", spec := "cipherPowers", apart := false, narrowed := true }
def CipherPowersUptoSaid : Prop := cipherPowersUptoRow.holds Try.pinned (OpenSpec.upto cipherPowersSpec)

/-- 'hanaperlaw02.CipherLinear', WHERE WHAT IT READS IS OF BULK AT MOST 1048576: true; the input reads as it did. -/
def cipherLinearUptoRow : OpenClaim := { program := "ythnmkniimokdiaa", sum := "6af5a5c12645192cdba6f26396ba8141e19de1cdf5bdedab2d7ca403082e69bf", func := "hanaper/hanaperlaw02.CipherLinear", spec := "cipherLinear", unfollowed := true, recurses := true, apart := false, narrowed := true }
def CipherLinearUptoSaid : Prop := cipherLinearUptoRow.holds Try.pinned (OpenSpec.upto cipherLinearSpec)

end Rows
end Go.Proofs.Ythnmkniimokdiaa
