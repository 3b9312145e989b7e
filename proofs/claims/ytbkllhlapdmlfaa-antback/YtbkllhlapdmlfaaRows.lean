/-
  No cell of these rows narrows 'for every input' (looked for: loops, veiled, ifaces, maps, wideKeys, modest, calm, conditions, laid).
  DERIVED. THE GIVEN ROWS OF THIS SEAT. 3 by the template 'for every input the law returns true; each argument reads behind the call as it read before'; 0 by the template 'total and deterministic' (their statements: YtbkllhlapdmlfaaTotals.lean).
  GIVEN WITH THE SEED: the statements are not yours to turn. If you find one false, say at which input.
  Laid BY PROGRAM, IN A SANDBOX (cutbox-rows.mjs): the forced cells as the released guide's own fill.sh prints them over the translation fae00b73ee678550… (all of the seat's roots in one cut). By AI agents, Wed Nov 11 2026. No macro, syntax, notation, axiom, sorry.
-/
import Derived.Test.YtbkllhlapdmlfaaChecked
import GoSem.Claim
import GoSem.ClaimJoined
import GoSem.ClaimMapViews
import Derived.JoinedTies
import Derived.KernelRfl
namespace Go.Proofs.Ytbkllhlapdmlfaa
/- THE CELL 'sum', in the pinned program and in every row, IS THE sha256 OF THE DUMP (.gsa) THAT YtbkllhlapdmlfaaProg.lean LOADS. Nothing in Lean hashes anything: it is a label: what it is worth is what the hold of that sum in a sandbox is worth. -/
noncomputable def Try.pinned : Pinned := { name := "ytbkllhlapdmlfaa", sum := "fae00b73ee67855094168c8f0417d6141bbf2ff10c99db622a3cb3dffbe55270", checked := Try.checked }
namespace Rows
def none {H : Type} : Left H := { results := [], args := [] }

/-- 'edenlaw3.GasKeeps': WHATEVER THE INPUT: true; the input reads as it did. -/
def gasKeepsSpec : ChangeSpec := { name := "gasKeeps", fn := fun _ => fun
  | [d1, d2, d3] => { results := [.lit (.bool true)], args := [d1, d2, d3] }
  | _ => none }
def gasKeepsRow : OpenClaim := { program := "ytbkllhlapdmlfaa", sum := "fae00b73ee67855094168c8f0417d6141bbf2ff10c99db622a3cb3dffbe55270", func := "eden/edenlaw3.GasKeeps", spec := "gasKeeps", plainKeys := false, apart := false }
def GasKeepsSaid : Prop := gasKeepsRow.holds Try.pinned (OpenSpec.ofChange gasKeepsSpec)

/-- ITS FALSE NEIGHBOUR: 'it returns false'. Refute it at one input. -/
def gasKeepsWrong : ChangeSpec := { name := "gasKeeps", fn := fun _ => fun
  | [d1, d2, d3] => { results := [.lit (.bool false)], args := [d1, d2, d3] }
  | _ => none }
def GasKeepsWrongFalsely : Prop := gasKeepsRow.holds Try.pinned (OpenSpec.ofChange gasKeepsWrong)

/-- 'edenlaw4.AntBack': WHATEVER THE INPUT: true; the input reads as it did. -/
def antBackSpec : ChangeSpec := { name := "antBack", fn := fun _ => fun
  | [d1, d2, d3, d4, d5] => { results := [.lit (.bool true)], args := [d1, d2, d3, d4, d5] }
  | _ => none }
def antBackRow : OpenClaim := { program := "ytbkllhlapdmlfaa", sum := "fae00b73ee67855094168c8f0417d6141bbf2ff10c99db622a3cb3dffbe55270", func := "eden/edenlaw4.AntBack", spec := "antBack", unfollowed := true, recurses := true, plainKeys := false, apart := false }
def AntBackSaid : Prop := antBackRow.holds Try.pinned (OpenSpec.ofChange antBackSpec)

/-- ITS FALSE NEIGHBOUR: 'it returns false'. Refute it at one input. -/
def antBackWrong : ChangeSpec := { name := "antBack", fn := fun _ => fun
  | [d1, d2, d3, d4, d5] => { results := [.lit (.bool false)], args := [d1, d2, d3, d4, d5] }
  | _ => none }
def AntBackWrongFalsely : Prop := antBackRow.holds Try.pinned (OpenSpec.ofChange antBackWrong)

/-- 'edenlaw4.AntNever': WHATEVER THE INPUT: true; the input reads as it did. -/
def antNeverSpec : ChangeSpec := { name := "antNever", fn := fun _ => fun
  | [d1, d2, d3, d4] => { results := [.lit (.bool true)], args := [d1, d2, d3, d4] }
  | _ => none }
def antNeverRow : OpenClaim := { program := "ytbkllhlapdmlfaa", sum := "fae00b73ee67855094168c8f0417d6141bbf2ff10c99db622a3cb3dffbe55270", func := "eden/edenlaw4.AntNever", spec := "antNever", unfollowed := true, recurses := true, plainKeys := false, apart := false }
def AntNeverSaid : Prop := antNeverRow.holds Try.pinned (OpenSpec.ofChange antNeverSpec)

/-- ITS FALSE NEIGHBOUR: 'it returns false'. Refute it at one input. -/
def antNeverWrong : ChangeSpec := { name := "antNever", fn := fun _ => fun
  | [d1, d2, d3, d4] => { results := [.lit (.bool false)], args := [d1, d2, d3, d4] }
  | _ => none }
def AntNeverWrongFalsely : Prop := antNeverRow.holds Try.pinned (OpenSpec.ofChange antNeverWrong)

/- THE SECOND FORM. 'bulk': how many values and letters a reading holds, each counted each time it is reached (what is shared counts as often as it is met; a slice's spare places count too). A statement '..UptoSaid' is the law's where the arguments, and the package variables that the reading takes, are together of bulk at most 1048576: NARROWER than '..Said'. Prove '..Said' where nothing that the law and all that it calls make is longer than what came in: it says more and counts as full. Else prove '..UptoSaid'. A law counts once. -/
mutual
def uptoBulk {H : Type} : DataW H → Nat
  | .lit (.string bytes) => bytes.length + 1
  | .lit _ => 1
  | .nil => 1
  | .ptr d => uptoBulk d + 1
  | .slice elems spare => uptoBulkAll elems + uptoBulkAll spare + 1
  | .agg parts => uptoBulkAll parts + 1
  | .iface _ d => uptoBulk d + 1
  | .map entries => uptoBulkEntries entries + 1
  | .held _ => 1
def uptoBulkAll {H : Type} : List (DataW H) → Nat
  | [] => 0
  | d :: r => uptoBulk d + uptoBulkAll r
def uptoBulkEntries {H : Type} : List (Lit × DataW H) → Nat
  | [] => 0
  | x :: r => uptoBulkEntry x + uptoBulkEntries r
def uptoBulkEntry {H : Type} : Lit × DataW H → Nat
  | (.string bytes, d) => bytes.length + uptoBulk d + 1
  | (_, d) => uptoBulk d + 1
 end
def uptoSmall : (H : Type) → List (DataW H) → Bool := fun _ ds => decide (uptoBulkAll ds ≤ 1048576)
def OpenSpec.upto (s : _root_.Go.ChangeSpec) : _root_.Go.OpenSpec := { _root_.Go.OpenSpec.ofChange s with cond := some uptoSmall }

/-- 'edenlaw3.GasKeeps', WHERE WHAT IT READS IS OF BULK AT MOST 1048576: true; the input reads as it did. -/
def gasKeepsUptoRow : OpenClaim := { program := "ytbkllhlapdmlfaa", sum := "fae00b73ee67855094168c8f0417d6141bbf2ff10c99db622a3cb3dffbe55270", func := "eden/edenlaw3.GasKeeps", spec := "gasKeeps", plainKeys := false, apart := false, narrowed := true }
def GasKeepsUptoSaid : Prop := gasKeepsUptoRow.holds Try.pinned (OpenSpec.upto gasKeepsSpec)

/-- 'edenlaw4.AntBack', WHERE WHAT IT READS IS OF BULK AT MOST 1048576: true; the input reads as it did. -/
def antBackUptoRow : OpenClaim := { program := "ytbkllhlapdmlfaa", sum := "fae00b73ee67855094168c8f0417d6141bbf2ff10c99db622a3cb3dffbe55270", func := "eden/edenlaw4.AntBack", spec := "antBack", unfollowed := true, recurses := true, plainKeys := false, apart := false, narrowed := true }
def AntBackUptoSaid : Prop := antBackUptoRow.holds Try.pinned (OpenSpec.upto antBackSpec)

/-- 'edenlaw4.AntNever', WHERE WHAT IT READS IS OF BULK AT MOST 1048576: true; the input reads as it did. -/
def antNeverUptoRow : OpenClaim := { program := "ytbkllhlapdmlfaa", sum := "fae00b73ee67855094168c8f0417d6141bbf2ff10c99db622a3cb3dffbe55270", func := "eden/edenlaw4.AntNever", spec := "antNever", unfollowed := true, recurses := true, plainKeys := false, apart := false, narrowed := true }
def AntNeverUptoSaid : Prop := antNeverUptoRow.holds Try.pinned (OpenSpec.upto antNeverSpec)

end Rows
end Go.Proofs.Ytbkllhlapdmlfaa
