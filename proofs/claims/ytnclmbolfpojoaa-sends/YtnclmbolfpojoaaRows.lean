/-
  No cell of these rows narrows 'for every input' (looked for: loops, veiled, ifaces, maps, wideKeys, modest, calm, conditions, laid).
  DERIVED. THE GIVEN ROWS OF THIS SEAT. 5 by the template 'for every input the law returns true; each argument reads behind the call as it read before'; 0 by the template 'total and deterministic' (their statements: YtnclmbolfpojoaaTotals.lean).
  GIVEN WITH THE SEED: the statements are not yours to turn. If you find one false, say at which input.
  Laid BY PROGRAM, IN A SANDBOX (cutbox-rows.mjs): the forced cells as the released guide's own fill.sh prints them over the translation 3f0e2fbd4d7d903d… (all of the seat's roots in one cut). By AI agents, Wed Nov 11 2026. No macro, syntax, notation, axiom, sorry.
-/
import Derived.Test.YtnclmbolfpojoaaChecked
import GoSem.Claim
import GoSem.ClaimJoined
import GoSem.ClaimMapViews
import Derived.JoinedTies
import Derived.KernelRfl
namespace Go.Proofs.Ytnclmbolfpojoaa
/- THE CELL 'sum', in the pinned program and in every row, IS THE sha256 OF THE DUMP (.gsa) THAT YtnclmbolfpojoaaProg.lean LOADS. Nothing in Lean hashes anything: it is a label: what it is worth is what the hold of that sum in a sandbox is worth. -/
noncomputable def Try.pinned : Pinned := { name := "ytnclmbolfpojoaa", sum := "3f0e2fbd4d7d903d40c3d25ae772d8f612bebb49017afbac59b299d83b574f6b", checked := Try.checked }
namespace Rows
def none {H : Type} : Left H := { results := [], args := [] }

/-- 'skeinlaw.Texts': WHATEVER THE INPUT: true; the input reads as it did. -/
def textsSpec : ChangeSpec := { name := "texts", fn := fun _ => fun
  | [d] => { results := [.lit (.bool true)], args := [d] }
  | _ => none }
def textsRow : OpenClaim := { program := "ytnclmbolfpojoaa", sum := "3f0e2fbd4d7d903d40c3d25ae772d8f612bebb49017afbac59b299d83b574f6b", func := "skein/skeinlaw.Texts", spec := "texts", inPlace := ["internal/abi.NoEscape"], unfollowed := true, recurses := true, apart := false }
def TextsSaid : Prop := textsRow.holds Try.pinned (OpenSpec.ofChange textsSpec)

/-- ITS FALSE NEIGHBOUR: 'it returns false'. Refute it at one input. -/
def textsWrong : ChangeSpec := { name := "texts", fn := fun _ => fun
  | [d] => { results := [.lit (.bool false)], args := [d] }
  | _ => none }
def TextsWrongFalsely : Prop := textsRow.holds Try.pinned (OpenSpec.ofChange textsWrong)

/-- 'skeinkeep.Packed': WHATEVER THE INPUT: true; the input reads as it did. -/
def packedSpec : ChangeSpec := { name := "packed", fn := fun _ => fun
  | [d1, d2] => { results := [.lit (.bool true)], args := [d1, d2] }
  | _ => none }
def packedRow : OpenClaim := { program := "ytnclmbolfpojoaa", sum := "3f0e2fbd4d7d903d40c3d25ae772d8f612bebb49017afbac59b299d83b574f6b", func := "skein/skeinkeep.Packed", spec := "packed", inPlace := ["internal/abi.NoEscape"], apart := false }
def PackedSaid : Prop := packedRow.holds Try.pinned (OpenSpec.ofChange packedSpec)

/-- ITS FALSE NEIGHBOUR: 'it returns false'. Refute it at one input. -/
def packedWrong : ChangeSpec := { name := "packed", fn := fun _ => fun
  | [d1, d2] => { results := [.lit (.bool false)], args := [d1, d2] }
  | _ => none }
def PackedWrongFalsely : Prop := packedRow.holds Try.pinned (OpenSpec.ofChange packedWrong)

/-- 'skeinkeep.Spotted': WHATEVER THE INPUT: true; the input reads as it did. -/
def spottedSpec : ChangeSpec := { name := "spotted", fn := fun _ => fun
  | [d1, d2, d3, d4, d5] => { results := [.lit (.bool true)], args := [d1, d2, d3, d4, d5] }
  | _ => none }
def spottedRow : OpenClaim := { program := "ytnclmbolfpojoaa", sum := "3f0e2fbd4d7d903d40c3d25ae772d8f612bebb49017afbac59b299d83b574f6b", func := "skein/skeinkeep.Spotted", spec := "spotted", apart := false }
def SpottedSaid : Prop := spottedRow.holds Try.pinned (OpenSpec.ofChange spottedSpec)

/-- ITS FALSE NEIGHBOUR: 'it returns false'. Refute it at one input. -/
def spottedWrong : ChangeSpec := { name := "spotted", fn := fun _ => fun
  | [d1, d2, d3, d4, d5] => { results := [.lit (.bool false)], args := [d1, d2, d3, d4, d5] }
  | _ => none }
def SpottedWrongFalsely : Prop := spottedRow.holds Try.pinned (OpenSpec.ofChange spottedWrong)

/-- 'skeinlaw.Sends': WHATEVER THE INPUT: true; the input reads as it did. -/
def sendsSpec : ChangeSpec := { name := "sends", fn := fun _ => fun
  | [d1, d2] => { results := [.lit (.bool true)], args := [d1, d2] }
  | _ => none }
def sendsRow : OpenClaim := { program := "ytnclmbolfpojoaa", sum := "3f0e2fbd4d7d903d40c3d25ae772d8f612bebb49017afbac59b299d83b574f6b", func := "skein/skeinlaw.Sends", spec := "sends", inPlace := ["internal/abi.NoEscape"], unfollowed := true, recurses := true, apart := false }
def SendsSaid : Prop := sendsRow.holds Try.pinned (OpenSpec.ofChange sendsSpec)

/-- ITS FALSE NEIGHBOUR: 'it returns false'. Refute it at one input. -/
def sendsWrong : ChangeSpec := { name := "sends", fn := fun _ => fun
  | [d1, d2] => { results := [.lit (.bool false)], args := [d1, d2] }
  | _ => none }
def SendsWrongFalsely : Prop := sendsRow.holds Try.pinned (OpenSpec.ofChange sendsWrong)

/-- 'skeinkeep.Fair': WHATEVER THE INPUT: true; the input reads as it did. -/
def fairSpec : ChangeSpec := { name := "fair", fn := fun _ => fun
  | [d1, d2, d3] => { results := [.lit (.bool true)], args := [d1, d2, d3] }
  | _ => none }
def fairRow : OpenClaim := { program := "ytnclmbolfpojoaa", sum := "3f0e2fbd4d7d903d40c3d25ae772d8f612bebb49017afbac59b299d83b574f6b", func := "skein/skeinkeep.Fair", spec := "fair", inPlace := ["internal/abi.NoEscape"], unfollowed := true, recurses := true, apart := false }
def FairSaid : Prop := fairRow.holds Try.pinned (OpenSpec.ofChange fairSpec)

/-- ITS FALSE NEIGHBOUR: 'it returns false'. Refute it at one input. -/
def fairWrong : ChangeSpec := { name := "fair", fn := fun _ => fun
  | [d1, d2, d3] => { results := [.lit (.bool false)], args := [d1, d2, d3] }
  | _ => none }
def FairWrongFalsely : Prop := fairRow.holds Try.pinned (OpenSpec.ofChange fairWrong)

/- THE SECOND FORM. 'bulk': how many values and letters a reading holds, each counted each time it is reached (what is shared counts as often as it is met; a slice's spare places count too). A statement '..UptoSaid' is the law's where the arguments, and the package variables that the reading takes, are together of bulk at most 1048576: NARROWER than '..Said'. Prove '..Said' where nothing that the law and all that it calls make is longer than what came in: it says more and counts as full. Else prove '..UptoSaid'. A law counts once. -/
mutual
def uptoBulk {H : Type} : DataW H → Nat
  | .lit (.string bytes) => bytes.length + 1
  | .lit _ => 1
  | .nil => 1
  | .ptr d => uptoBulk d + 1
  | .slice elems spare => uptoBulkAll elems + uptoBulkAll spare + 1
  | .agg parts => uptoBulkAll parts + 1
  | .iface _ d => uptoBulk d + 1
  | .map entries => uptoBulkEntries entries + 1
  | .held _ => 1
def uptoBulkAll {H : Type} : List (DataW H) → Nat
  | [] => 0
  | d :: r => uptoBulk d + uptoBulkAll r
def uptoBulkEntries {H : Type} : List (Lit × DataW H) → Nat
  | [] => 0
  | x :: r => uptoBulkEntry x + uptoBulkEntries r
def uptoBulkEntry {H : Type} : Lit × DataW H → Nat
  | (.string bytes, d) => bytes.length + uptoBulk d + 1
  | (_, d) => uptoBulk d + 1
 end
def uptoSmall : (H : Type) → List (DataW H) → Bool := fun _ ds => decide (uptoBulkAll ds ≤ 1048576)
def OpenSpec.upto (s : _root_.Go.ChangeSpec) : _root_.Go.OpenSpec := { _root_.Go.OpenSpec.ofChange s with cond := some uptoSmall }

/-- 'skeinlaw.Texts', WHERE WHAT IT READS IS OF BULK AT MOST 1048576: true; the input reads as it did. -/
def textsUptoRow : OpenClaim := { program := "ytnclmbolfpojoaa", sum := "3f0e2fbd4d7d903d40c3d25ae772d8f612bebb49017afbac59b299d83b574f6b", func := "skein/skeinlaw.Texts", spec := "texts", inPlace := ["internal/abi.NoEscape"], unfollowed := true, recurses := true, apart := false, narrowed := true }
def TextsUptoSaid : Prop := textsUptoRow.holds Try.pinned (OpenSpec.upto textsSpec)

/-- 'skeinkeep.Packed', WHERE WHAT IT READS IS OF BULK AT MOST 1048576: true; the input reads as it did. -/
def packedUptoRow : OpenClaim := { program := "ytnclmbolfpojoaa", sum := "3f0e2fbd4d7d903d40c3d25ae772d8f612bebb49017afbac59b299d83b574f6b", func := "skein/skeinkeep.Packed", spec := "packed", inPlace := ["internal/abi.NoEscape"], apart := false, narrowed := true }
def PackedUptoSaid : Prop := packedUptoRow.holds Try.pinned (OpenSpec.upto packedSpec)

/-- 'skeinkeep.Spotted', WHERE WHAT IT READS IS OF BULK AT MOST 1048576: true; the input reads as it did. -/
def spottedUptoRow : OpenClaim := { program := "ytnclmbolfpojoaa", sum := "3f0e2fbd4d7d903d40c3d25ae772d8f612bebb49017afbac59b299d83b574f6b", func := "skein/skeinkeep.Spotted", spec := "spotted", apart := false, narrowed := true }
def SpottedUptoSaid : Prop := spottedUptoRow.holds Try.pinned (OpenSpec.upto spottedSpec)

/-- 'skeinlaw.Sends', WHERE WHAT IT READS IS OF BULK AT MOST 1048576: true; the input reads as it did. -/
def sendsUptoRow : OpenClaim := { program := "ytnclmbolfpojoaa", sum := "3f0e2fbd4d7d903d40c3d25ae772d8f612bebb49017afbac59b299d83b574f6b", func := "skein/skeinlaw.Sends", spec := "sends", inPlace := ["internal/abi.NoEscape"], unfollowed := true, recurses := true, apart := false, narrowed := true }
def SendsUptoSaid : Prop := sendsUptoRow.holds Try.pinned (OpenSpec.upto sendsSpec)

/-- 'skeinkeep.Fair', WHERE WHAT IT READS IS OF BULK AT MOST 1048576: true; the input reads as it did. -/
def fairUptoRow : OpenClaim := { program := "ytnclmbolfpojoaa", sum := "3f0e2fbd4d7d903d40c3d25ae772d8f612bebb49017afbac59b299d83b574f6b", func := "skein/skeinkeep.Fair", spec := "fair", inPlace := ["internal/abi.NoEscape"], unfollowed := true, recurses := true, apart := false, narrowed := true }
def FairUptoSaid : Prop := fairUptoRow.holds Try.pinned (OpenSpec.upto fairSpec)

end Rows
end Go.Proofs.Ytnclmbolfpojoaa
