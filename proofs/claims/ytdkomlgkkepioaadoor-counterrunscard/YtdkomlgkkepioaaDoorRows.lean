/-
  NARROWER THAN 'FOR EVERY INPUT', by the rows' own cells (each row's printed sentence says how): PlaneParent: laid · PlaneEden: laid · HashPuts: laid · AntWalks: laid · CounterReads: laid · CounterRuns: laid · CounterPlays: laid.
  DERIVED. THE GIVEN ROWS OF THIS SEAT. 7 by the template 'for every input the law returns true; each argument reads behind the call as it read before'; 0 by the template 'total and deterministic' (their statements: YtdkomlgkkepioaaDoorTotals.lean).
  GIVEN WITH THE SEED: the statements are not yours to turn. If you find one false, say at which input.
  Laid BY PROGRAM, IN A SANDBOX (cutbox-rows.mjs): the forced cells as the released guide's own fill.sh prints them over the translation cecd01f1b1ac2c70… (all of the seat's roots in one cut). By AI agents, Wed Nov 11 2026. No macro, syntax, notation, axiom, sorry.
-/
import Derived.Test.YtdkomlgkkepioaaDoorChecked
import GoSem.PinnedTables
import GoSem.Claim
import GoSem.ClaimJoined
import GoSem.ClaimMapViews
import Derived.JoinedTies
import Derived.KernelRfl
namespace Go.Proofs.YtdkomlgkkepioaaDoor
/- THE CELL 'sum', in the pinned program and in every row, IS THE sha256 OF THE DUMP (.gsa) THAT YtdkomlgkkepioaaDoorProg.lean LOADS. Nothing in Lean hashes anything: it is a label: what it is worth is what the hold of that sum in a sandbox is worth. -/
noncomputable def Tryd.pinned : Pinned := { name := "ytdkomlgkkepioaadoor", sum := "cecd01f1b1ac2c70b2775f87d76a77c404a5e1eef678ed31e870f5ade6cbbe8c", checked := Tryd.checked }
namespace Rows
def none {H : Type} : Left H := { results := [], args := [] }

/- WHAT THE LISTED PACKAGE-LEVEL VARIABLES READ AS WHEN THE CALL BEGINS. Each datum BY PROGRAM (the guide's laid-datum.mjs) off the statement by which the dump's own 'gosem.cut.vars' lays the variable. In a bare row this is a premise. The card (YtdkomlgkkepioaaDoorCards.lean) ties it to the program's text. -/
def laid_errors_errorType {H : Type} : DataW H := .iface "internal/reflectlite.rtype" (.agg [.ptr (.lit (.string [101, 114, 114, 111, 114]))])
def laid_math_bits_deBruijn64tab {H : Type} : DataW H := .agg [.lit (.int .u8 0), .lit (.int .u8 1), .lit (.int .u8 56), .lit (.int .u8 2), .lit (.int .u8 57), .lit (.int .u8 49), .lit (.int .u8 28), .lit (.int .u8 3), .lit (.int .u8 61), .lit (.int .u8 58), .lit (.int .u8 42), .lit (.int .u8 50), .lit (.int .u8 38), .lit (.int .u8 29), .lit (.int .u8 17), .lit (.int .u8 4), .lit (.int .u8 62), .lit (.int .u8 47), .lit (.int .u8 59), .lit (.int .u8 36), .lit (.int .u8 45), .lit (.int .u8 43), .lit (.int .u8 51), .lit (.int .u8 22), .lit (.int .u8 53), .lit (.int .u8 39), .lit (.int .u8 33), .lit (.int .u8 30), .lit (.int .u8 24), .lit (.int .u8 18), .lit (.int .u8 12), .lit (.int .u8 5), .lit (.int .u8 63), .lit (.int .u8 55), .lit (.int .u8 48), .lit (.int .u8 27), .lit (.int .u8 60), .lit (.int .u8 41), .lit (.int .u8 37), .lit (.int .u8 16), .lit (.int .u8 46), .lit (.int .u8 35), .lit (.int .u8 44), .lit (.int .u8 21), .lit (.int .u8 52), .lit (.int .u8 32), .lit (.int .u8 23), .lit (.int .u8 11), .lit (.int .u8 54), .lit (.int .u8 26), .lit (.int .u8 40), .lit (.int .u8 15), .lit (.int .u8 34), .lit (.int .u8 20), .lit (.int .u8 31), .lit (.int .u8 10), .lit (.int .u8 25), .lit (.int .u8 14), .lit (.int .u8 19), .lit (.int .u8 9), .lit (.int .u8 13), .lit (.int .u8 8), .lit (.int .u8 7), .lit (.int .u8 6)]
def laid_unicode_utf8_acceptRanges {H : Type} : DataW H := .agg [.agg [.lit (.int .u8 128), .lit (.int .u8 191)], .agg [.lit (.int .u8 160), .lit (.int .u8 191)], .agg [.lit (.int .u8 128), .lit (.int .u8 159)], .agg [.lit (.int .u8 144), .lit (.int .u8 191)], .agg [.lit (.int .u8 128), .lit (.int .u8 143)], .agg [.lit (.int .u8 0), .lit (.int .u8 0)], .agg [.lit (.int .u8 0), .lit (.int .u8 0)], .agg [.lit (.int .u8 0), .lit (.int .u8 0)], .agg [.lit (.int .u8 0), .lit (.int .u8 0)], .agg [.lit (.int .u8 0), .lit (.int .u8 0)], .agg [.lit (.int .u8 0), .lit (.int .u8 0)], .agg [.lit (.int .u8 0), .lit (.int .u8 0)], .agg [.lit (.int .u8 0), .lit (.int .u8 0)], .agg [.lit (.int .u8 0), .lit (.int .u8 0)], .agg [.lit (.int .u8 0), .lit (.int .u8 0)], .agg [.lit (.int .u8 0), .lit (.int .u8 0)]]
def laid_eden_counter_words {H : Type} : DataW H := .agg [.lit (.string []), .lit (.string [105, 110, 99]), .lit (.string [100, 101, 99]), .lit (.string [104, 97, 108, 116])]
def laid_eden_counter_used {H : Type} : DataW H := .agg [.lit (.int .i64 0), .lit (.int .i64 2), .lit (.int .i64 3), .lit (.int .i64 0)]
/-- One of Go's own tables, pinned by name: the form's constant. -/
def laid_unicode_utf8_first : DataW Unit := Go.Pinned.utf8First
def laid_math_bits_deBruijn32tab {H : Type} : DataW H := .agg [.lit (.int .u8 0), .lit (.int .u8 1), .lit (.int .u8 28), .lit (.int .u8 2), .lit (.int .u8 29), .lit (.int .u8 14), .lit (.int .u8 24), .lit (.int .u8 3), .lit (.int .u8 30), .lit (.int .u8 22), .lit (.int .u8 20), .lit (.int .u8 15), .lit (.int .u8 25), .lit (.int .u8 17), .lit (.int .u8 4), .lit (.int .u8 8), .lit (.int .u8 31), .lit (.int .u8 27), .lit (.int .u8 13), .lit (.int .u8 23), .lit (.int .u8 21), .lit (.int .u8 19), .lit (.int .u8 16), .lit (.int .u8 7), .lit (.int .u8 26), .lit (.int .u8 12), .lit (.int .u8 18), .lit (.int .u8 6), .lit (.int .u8 11), .lit (.int .u8 5), .lit (.int .u8 10), .lit (.int .u8 9)]
def laid_internal_strconv_uint64pow10 {H : Type} : DataW H := .agg [.lit (.int .u64 1), .lit (.int .u64 10), .lit (.int .u64 100), .lit (.int .u64 1000), .lit (.int .u64 10000), .lit (.int .u64 100000), .lit (.int .u64 1000000), .lit (.int .u64 10000000), .lit (.int .u64 100000000), .lit (.int .u64 1000000000), .lit (.int .u64 10000000000), .lit (.int .u64 100000000000), .lit (.int .u64 1000000000000), .lit (.int .u64 10000000000000), .lit (.int .u64 100000000000000), .lit (.int .u64 1000000000000000), .lit (.int .u64 10000000000000000), .lit (.int .u64 100000000000000000), .lit (.int .u64 1000000000000000000), .lit (.int .u64 10000000000000000000)]
def laid_eden_counter_errEnded {H : Type} : DataW H := .iface "*errors.errorString" (.ptr (.agg [.lit (.string [101, 110, 100, 101, 100])]))
def laid_eden_counter_primes {H : Type} : DataW H := .agg [.lit (.int .i64 2), .lit (.int .i64 3), .lit (.int .i64 5), .lit (.int .i64 7), .lit (.int .i64 11), .lit (.int .i64 13), .lit (.int .i64 17), .lit (.int .i64 19), .lit (.int .i64 23), .lit (.int .i64 29), .lit (.int .i64 31), .lit (.int .i64 37), .lit (.int .i64 41), .lit (.int .i64 43), .lit (.int .i64 47), .lit (.int .i64 53), .lit (.int .i64 59), .lit (.int .i64 61), .lit (.int .i64 67), .lit (.int .i64 71), .lit (.int .i64 73), .lit (.int .i64 79), .lit (.int .i64 83), .lit (.int .i64 89), .lit (.int .i64 97), .lit (.int .i64 101), .lit (.int .i64 103), .lit (.int .i64 107)]

/-- 'edenlaw3.PlaneParent': WHATEVER THE INPUT: true; the input reads as it did. -/
def planeParentSpec : ChangeSpec := { name := "planeParent", fn := fun _ => fun
  | [d1, d2] => { results := [.lit (.bool true)], args := [d1, d2] }
  | _ => none }
def planeParentRow : OpenClaim := { program := "ytdkomlgkkepioaadoor", sum := "cecd01f1b1ac2c70b2775f87d76a77c404a5e1eef678ed31e870f5ade6cbbe8c", func := "eden/edenlaw3.PlaneParent", spec := "planeParent", inPlace := ["internal/reflectlite.ValueOf", "(internal/reflectlite.Value).Type", "(internal/reflectlite.Value).IsNil", "internal/reflectlite.TypeOf", "(internal/reflectlite.Value).Elem", "(internal/reflectlite.Value).Set"], unfollowed := true, recurses := true, named := ["errors.errorType"], plainKeys := false, apart := false, laid := [("errors.errorType", laid_errors_errorType)] }
def PlaneParentSaid : Prop := planeParentRow.holds Tryd.pinned (OpenSpec.ofChange planeParentSpec)

/-- ITS FALSE NEIGHBOUR: 'it returns false'. Refute it at one input. -/
def planeParentWrong : ChangeSpec := { name := "planeParent", fn := fun _ => fun
  | [d1, d2] => { results := [.lit (.bool false)], args := [d1, d2] }
  | _ => none }
def PlaneParentWrongFalsely : Prop := planeParentRow.holds Tryd.pinned (OpenSpec.ofChange planeParentWrong)

/-- 'edenlaw3.PlaneEden': WHATEVER THE INPUT: true; the input reads as it did. -/
def planeEdenSpec : ChangeSpec := { name := "planeEden", fn := fun _ => fun
  | [d1, d2, d3] => { results := [.lit (.bool true)], args := [d1, d2, d3] }
  | _ => none }
def planeEdenRow : OpenClaim := { program := "ytdkomlgkkepioaadoor", sum := "cecd01f1b1ac2c70b2775f87d76a77c404a5e1eef678ed31e870f5ade6cbbe8c", func := "eden/edenlaw3.PlaneEden", spec := "planeEden", inPlace := ["internal/reflectlite.ValueOf", "(internal/reflectlite.Value).Type", "(internal/reflectlite.Value).IsNil", "internal/reflectlite.TypeOf", "(internal/reflectlite.Value).Elem", "(internal/reflectlite.Value).Set"], unfollowed := true, recurses := true, named := ["math/bits.deBruijn64tab", "errors.errorType"], plainKeys := false, apart := false, laid := [("math/bits.deBruijn64tab", laid_math_bits_deBruijn64tab), ("errors.errorType", laid_errors_errorType)] }
def PlaneEdenSaid : Prop := planeEdenRow.holds Tryd.pinned (OpenSpec.ofChange planeEdenSpec)

/-- ITS FALSE NEIGHBOUR: 'it returns false'. Refute it at one input. -/
def planeEdenWrong : ChangeSpec := { name := "planeEden", fn := fun _ => fun
  | [d1, d2, d3] => { results := [.lit (.bool false)], args := [d1, d2, d3] }
  | _ => none }
def PlaneEdenWrongFalsely : Prop := planeEdenRow.holds Tryd.pinned (OpenSpec.ofChange planeEdenWrong)

/-- 'edenlaw3.HashPuts': WHATEVER THE INPUT: true; the input reads as it did. -/
def hashPutsSpec : ChangeSpec := { name := "hashPuts", fn := fun _ => fun
  | [d1, d2, d3, d4, d5, d6, d7] => { results := [.lit (.bool true)], args := [d1, d2, d3, d4, d5, d6, d7] }
  | _ => none }
def hashPutsRow : OpenClaim := { program := "ytdkomlgkkepioaadoor", sum := "cecd01f1b1ac2c70b2775f87d76a77c404a5e1eef678ed31e870f5ade6cbbe8c", func := "eden/edenlaw3.HashPuts", spec := "hashPuts", recurses := true, named := ["math/bits.deBruijn64tab"], plainKeys := false, apart := false, laid := [("math/bits.deBruijn64tab", laid_math_bits_deBruijn64tab)] }
def HashPutsSaid : Prop := hashPutsRow.holds Tryd.pinned (OpenSpec.ofChange hashPutsSpec)

/-- ITS FALSE NEIGHBOUR: 'it returns false'. Refute it at one input. -/
def hashPutsWrong : ChangeSpec := { name := "hashPuts", fn := fun _ => fun
  | [d1, d2, d3, d4, d5, d6, d7] => { results := [.lit (.bool false)], args := [d1, d2, d3, d4, d5, d6, d7] }
  | _ => none }
def HashPutsWrongFalsely : Prop := hashPutsRow.holds Tryd.pinned (OpenSpec.ofChange hashPutsWrong)

/-- 'edenlaw4.AntWalks': WHATEVER THE INPUT: true; the input reads as it did. -/
def antWalksSpec : ChangeSpec := { name := "antWalks", fn := fun _ => fun
  | [d1, d2, d3, d4] => { results := [.lit (.bool true)], args := [d1, d2, d3, d4] }
  | _ => none }
def antWalksRow : OpenClaim := { program := "ytdkomlgkkepioaadoor", sum := "cecd01f1b1ac2c70b2775f87d76a77c404a5e1eef678ed31e870f5ade6cbbe8c", func := "eden/edenlaw4.AntWalks", spec := "antWalks", inPlace := ["internal/reflectlite.ValueOf", "(internal/reflectlite.Value).Type", "(internal/reflectlite.Value).IsNil", "internal/reflectlite.TypeOf", "(internal/reflectlite.Value).Elem", "(internal/reflectlite.Value).Set"], unfollowed := true, recurses := true, named := ["errors.errorType"], plainKeys := false, apart := false, laid := [("errors.errorType", laid_errors_errorType)] }
def AntWalksSaid : Prop := antWalksRow.holds Tryd.pinned (OpenSpec.ofChange antWalksSpec)

/-- ITS FALSE NEIGHBOUR: 'it returns false'. Refute it at one input. -/
def antWalksWrong : ChangeSpec := { name := "antWalks", fn := fun _ => fun
  | [d1, d2, d3, d4] => { results := [.lit (.bool false)], args := [d1, d2, d3, d4] }
  | _ => none }
def AntWalksWrongFalsely : Prop := antWalksRow.holds Tryd.pinned (OpenSpec.ofChange antWalksWrong)

/-- 'edenlaw4.CounterReads': WHATEVER THE INPUT: true; the input reads as it did. -/
def counterReadsSpec : ChangeSpec := { name := "counterReads", fn := fun _ => fun
  | [d] => { results := [.lit (.bool true)], args := [d] }
  | _ => none }
def counterReadsRow : OpenClaim := { program := "ytdkomlgkkepioaadoor", sum := "cecd01f1b1ac2c70b2775f87d76a77c404a5e1eef678ed31e870f5ade6cbbe8c", func := "eden/edenlaw4.CounterReads", spec := "counterReads", inPlace := ["internal/bytealg.IndexByteString", "internal/bytealg.IndexString", "internal/bytealg.CountString", "internal/reflectlite.ValueOf", "(internal/reflectlite.Value).Type", "(internal/reflectlite.Value).IsNil", "internal/reflectlite.TypeOf", "(internal/reflectlite.Value).Elem", "(internal/reflectlite.Value).Set"], unfollowed := true, recurses := true, named := ["internal/bytealg.MaxLen", "eden/counter.used", "unicode/utf8.first", "unicode/utf8.acceptRanges", "eden/counter.words", "errors.errorType"], plainKeys := false, apart := false, laid := [("unicode/utf8.acceptRanges", laid_unicode_utf8_acceptRanges), ("errors.errorType", laid_errors_errorType), ("eden/counter.words", laid_eden_counter_words), ("eden/counter.used", laid_eden_counter_used), ("unicode/utf8.first", laid_unicode_utf8_first)] }
def CounterReadsSaid : Prop := counterReadsRow.holds Tryd.pinned (OpenSpec.ofChange counterReadsSpec)

/-- ITS FALSE NEIGHBOUR: 'it returns false'. Refute it at one input. -/
def counterReadsWrong : ChangeSpec := { name := "counterReads", fn := fun _ => fun
  | [d] => { results := [.lit (.bool false)], args := [d] }
  | _ => none }
def CounterReadsWrongFalsely : Prop := counterReadsRow.holds Tryd.pinned (OpenSpec.ofChange counterReadsWrong)

/-- 'edenlaw4.CounterRuns': WHATEVER THE INPUT: true; the input reads as it did. -/
def counterRunsSpec : ChangeSpec := { name := "counterRuns", fn := fun _ => fun
  | [d1, d2, d3] => { results := [.lit (.bool true)], args := [d1, d2, d3] }
  | _ => none }
def counterRunsRow : OpenClaim := { program := "ytdkomlgkkepioaadoor", sum := "cecd01f1b1ac2c70b2775f87d76a77c404a5e1eef678ed31e870f5ade6cbbe8c", func := "eden/edenlaw4.CounterRuns", spec := "counterRuns", inPlace := ["internal/reflectlite.ValueOf", "(internal/reflectlite.Value).Type", "(internal/reflectlite.Value).IsNil", "internal/reflectlite.TypeOf", "(internal/reflectlite.Value).Elem", "(internal/reflectlite.Value).Set", "internal/abi.NoEscape"], unfollowed := true, recurses := true, named := ["eden/counter.used", "errors.errorType", "eden/counter.words", "internal/strconv.uint64pow10", "math/bits.deBruijn32tab", "math/bits.deBruijn64tab", "eden/counter.primes", "eden/counter.errEnded"], plainKeys := false, apart := false, laid := [("math/bits.deBruijn32tab", laid_math_bits_deBruijn32tab), ("math/bits.deBruijn64tab", laid_math_bits_deBruijn64tab), ("internal/strconv.uint64pow10", laid_internal_strconv_uint64pow10), ("errors.errorType", laid_errors_errorType), ("eden/counter.errEnded", laid_eden_counter_errEnded), ("eden/counter.primes", laid_eden_counter_primes), ("eden/counter.words", laid_eden_counter_words), ("eden/counter.used", laid_eden_counter_used)] }
def CounterRunsSaid : Prop := counterRunsRow.holds Tryd.pinned (OpenSpec.ofChange counterRunsSpec)

/-- ITS FALSE NEIGHBOUR: 'it returns false'. Refute it at one input. -/
def counterRunsWrong : ChangeSpec := { name := "counterRuns", fn := fun _ => fun
  | [d1, d2, d3] => { results := [.lit (.bool false)], args := [d1, d2, d3] }
  | _ => none }
def CounterRunsWrongFalsely : Prop := counterRunsRow.holds Tryd.pinned (OpenSpec.ofChange counterRunsWrong)

/-- 'edenlaw4.CounterPlays': WHATEVER THE INPUT: true; the input reads as it did. -/
def counterPlaysSpec : ChangeSpec := { name := "counterPlays", fn := fun _ => fun
  | [d1, d2, d3] => { results := [.lit (.bool true)], args := [d1, d2, d3] }
  | _ => none }
def counterPlaysRow : OpenClaim := { program := "ytdkomlgkkepioaadoor", sum := "cecd01f1b1ac2c70b2775f87d76a77c404a5e1eef678ed31e870f5ade6cbbe8c", func := "eden/edenlaw4.CounterPlays", spec := "counterPlays", inPlace := ["internal/reflectlite.TypeOf", "internal/reflectlite.ValueOf", "(internal/reflectlite.Value).Type", "(internal/reflectlite.Value).IsNil", "(internal/reflectlite.Value).Elem", "(internal/reflectlite.Value).Set"], unfollowed := true, recurses := true, named := ["eden/counter.errEnded", "math/bits.divideError", "math/bits.overflowError", "errors.errorType"], plainKeys := false, apart := false, laid := [("errors.errorType", laid_errors_errorType), ("eden/counter.errEnded", laid_eden_counter_errEnded)] }
def CounterPlaysSaid : Prop := counterPlaysRow.holds Tryd.pinned (OpenSpec.ofChange counterPlaysSpec)

/-- ITS FALSE NEIGHBOUR: 'it returns false'. Refute it at one input. -/
def counterPlaysWrong : ChangeSpec := { name := "counterPlays", fn := fun _ => fun
  | [d1, d2, d3] => { results := [.lit (.bool false)], args := [d1, d2, d3] }
  | _ => none }
def CounterPlaysWrongFalsely : Prop := counterPlaysRow.holds Tryd.pinned (OpenSpec.ofChange counterPlaysWrong)

/- THE SECOND FORM. 'bulk': how many values and letters a reading holds, each counted each time it is reached (what is shared counts as often as it is met; a slice's spare places count too). A statement '..UptoSaid' is the law's where the arguments, and the package variables that the reading takes, are together of bulk at most 1048576: NARROWER than '..Said'. Prove '..Said' where nothing that the law and all that it calls make is longer than what came in: it says more and counts as full. Else prove '..UptoSaid'. A law counts once. -/
mutual
def uptoBulk {H : Type} : DataW H → Nat
  | .lit (.string bytes) => bytes.length + 1
  | .lit _ => 1
  | .nil => 1
  | .ptr d => uptoBulk d + 1
  | .slice elems spare => uptoBulkAll elems + uptoBulkAll spare + 1
  | .agg parts => uptoBulkAll parts + 1
  | .iface _ d => uptoBulk d + 1
  | .map entries => uptoBulkEntries entries + 1
  | .held _ => 1
def uptoBulkAll {H : Type} : List (DataW H) → Nat
  | [] => 0
  | d :: r => uptoBulk d + uptoBulkAll r
def uptoBulkEntries {H : Type} : List (Lit × DataW H) → Nat
  | [] => 0
  | x :: r => uptoBulkEntry x + uptoBulkEntries r
def uptoBulkEntry {H : Type} : Lit × DataW H → Nat
  | (.string bytes, d) => bytes.length + uptoBulk d + 1
  | (_, d) => uptoBulk d + 1
 end
def uptoSmall : (H : Type) → List (DataW H) → Bool := fun _ ds => decide (uptoBulkAll ds ≤ 1048576)
def OpenSpec.upto (s : _root_.Go.ChangeSpec) : _root_.Go.OpenSpec := { _root_.Go.OpenSpec.ofChange s with cond := some uptoSmall }

/-- 'edenlaw3.PlaneParent', WHERE WHAT IT READS IS OF BULK AT MOST 1048576: true; the input reads as it did. -/
def planeParentUptoRow : OpenClaim := { program := "ytdkomlgkkepioaadoor", sum := "cecd01f1b1ac2c70b2775f87d76a77c404a5e1eef678ed31e870f5ade6cbbe8c", func := "eden/edenlaw3.PlaneParent", spec := "planeParent", inPlace := ["internal/reflectlite.ValueOf", "(internal/reflectlite.Value).Type", "(internal/reflectlite.Value).IsNil", "internal/reflectlite.TypeOf", "(internal/reflectlite.Value).Elem", "(internal/reflectlite.Value).Set"], unfollowed := true, recurses := true, named := ["errors.errorType"], plainKeys := false, apart := false, laid := [("errors.errorType", laid_errors_errorType)], narrowed := true }
def PlaneParentUptoSaid : Prop := planeParentUptoRow.holds Tryd.pinned (OpenSpec.upto planeParentSpec)

/-- 'edenlaw3.PlaneEden', WHERE WHAT IT READS IS OF BULK AT MOST 1048576: true; the input reads as it did. -/
def planeEdenUptoRow : OpenClaim := { program := "ytdkomlgkkepioaadoor", sum := "cecd01f1b1ac2c70b2775f87d76a77c404a5e1eef678ed31e870f5ade6cbbe8c", func := "eden/edenlaw3.PlaneEden", spec := "planeEden", inPlace := ["internal/reflectlite.ValueOf", "(internal/reflectlite.Value).Type", "(internal/reflectlite.Value).IsNil", "internal/reflectlite.TypeOf", "(internal/reflectlite.Value).Elem", "(internal/reflectlite.Value).Set"], unfollowed := true, recurses := true, named := ["math/bits.deBruijn64tab", "errors.errorType"], plainKeys := false, apart := false, laid := [("math/bits.deBruijn64tab", laid_math_bits_deBruijn64tab), ("errors.errorType", laid_errors_errorType)], narrowed := true }
def PlaneEdenUptoSaid : Prop := planeEdenUptoRow.holds Tryd.pinned (OpenSpec.upto planeEdenSpec)

/-- 'edenlaw3.HashPuts', WHERE WHAT IT READS IS OF BULK AT MOST 1048576: true; the input reads as it did. -/
def hashPutsUptoRow : OpenClaim := { program := "ytdkomlgkkepioaadoor", sum := "cecd01f1b1ac2c70b2775f87d76a77c404a5e1eef678ed31e870f5ade6cbbe8c", func := "eden/edenlaw3.HashPuts", spec := "hashPuts", recurses := true, named := ["math/bits.deBruijn64tab"], plainKeys := false, apart := false, laid := [("math/bits.deBruijn64tab", laid_math_bits_deBruijn64tab)], narrowed := true }
def HashPutsUptoSaid : Prop := hashPutsUptoRow.holds Tryd.pinned (OpenSpec.upto hashPutsSpec)

/-- 'edenlaw4.AntWalks', WHERE WHAT IT READS IS OF BULK AT MOST 1048576: true; the input reads as it did. -/
def antWalksUptoRow : OpenClaim := { program := "ytdkomlgkkepioaadoor", sum := "cecd01f1b1ac2c70b2775f87d76a77c404a5e1eef678ed31e870f5ade6cbbe8c", func := "eden/edenlaw4.AntWalks", spec := "antWalks", inPlace := ["internal/reflectlite.ValueOf", "(internal/reflectlite.Value).Type", "(internal/reflectlite.Value).IsNil", "internal/reflectlite.TypeOf", "(internal/reflectlite.Value).Elem", "(internal/reflectlite.Value).Set"], unfollowed := true, recurses := true, named := ["errors.errorType"], plainKeys := false, apart := false, laid := [("errors.errorType", laid_errors_errorType)], narrowed := true }
def AntWalksUptoSaid : Prop := antWalksUptoRow.holds Tryd.pinned (OpenSpec.upto antWalksSpec)

/-- 'edenlaw4.CounterReads', WHERE WHAT IT READS IS OF BULK AT MOST 1048576: true; the input reads as it did. -/
def counterReadsUptoRow : OpenClaim := { program := "ytdkomlgkkepioaadoor", sum := "cecd01f1b1ac2c70b2775f87d76a77c404a5e1eef678ed31e870f5ade6cbbe8c", func := "eden/edenlaw4.CounterReads", spec := "counterReads", inPlace := ["internal/bytealg.IndexByteString", "internal/bytealg.IndexString", "internal/bytealg.CountString", "internal/reflectlite.ValueOf", "(internal/reflectlite.Value).Type", "(internal/reflectlite.Value).IsNil", "internal/reflectlite.TypeOf", "(internal/reflectlite.Value).Elem", "(internal/reflectlite.Value).Set"], unfollowed := true, recurses := true, named := ["internal/bytealg.MaxLen", "eden/counter.used", "unicode/utf8.first", "unicode/utf8.acceptRanges", "eden/counter.words", "errors.errorType"], plainKeys := false, apart := false, laid := [("unicode/utf8.acceptRanges", laid_unicode_utf8_acceptRanges), ("errors.errorType", laid_errors_errorType), ("eden/counter.words", laid_eden_counter_words), ("eden/counter.used", laid_eden_counter_used), ("unicode/utf8.first", laid_unicode_utf8_first)], narrowed := true }
def CounterReadsUptoSaid : Prop := counterReadsUptoRow.holds Tryd.pinned (OpenSpec.upto counterReadsSpec)

/-- 'edenlaw4.CounterRuns', WHERE WHAT IT READS IS OF BULK AT MOST 1048576: true; the input reads as it did. -/
def counterRunsUptoRow : OpenClaim := { program := "ytdkomlgkkepioaadoor", sum := "cecd01f1b1ac2c70b2775f87d76a77c404a5e1eef678ed31e870f5ade6cbbe8c", func := "eden/edenlaw4.CounterRuns", spec := "counterRuns", inPlace := ["internal/reflectlite.ValueOf", "(internal/reflectlite.Value).Type", "(internal/reflectlite.Value).IsNil", "internal/reflectlite.TypeOf", "(internal/reflectlite.Value).Elem", "(internal/reflectlite.Value).Set", "internal/abi.NoEscape"], unfollowed := true, recurses := true, named := ["eden/counter.used", "errors.errorType", "eden/counter.words", "internal/strconv.uint64pow10", "math/bits.deBruijn32tab", "math/bits.deBruijn64tab", "eden/counter.primes", "eden/counter.errEnded"], plainKeys := false, apart := false, laid := [("math/bits.deBruijn32tab", laid_math_bits_deBruijn32tab), ("math/bits.deBruijn64tab", laid_math_bits_deBruijn64tab), ("internal/strconv.uint64pow10", laid_internal_strconv_uint64pow10), ("errors.errorType", laid_errors_errorType), ("eden/counter.errEnded", laid_eden_counter_errEnded), ("eden/counter.primes", laid_eden_counter_primes), ("eden/counter.words", laid_eden_counter_words), ("eden/counter.used", laid_eden_counter_used)], narrowed := true }
def CounterRunsUptoSaid : Prop := counterRunsUptoRow.holds Tryd.pinned (OpenSpec.upto counterRunsSpec)

/-- 'edenlaw4.CounterPlays', WHERE WHAT IT READS IS OF BULK AT MOST 1048576: true; the input reads as it did. -/
def counterPlaysUptoRow : OpenClaim := { program := "ytdkomlgkkepioaadoor", sum := "cecd01f1b1ac2c70b2775f87d76a77c404a5e1eef678ed31e870f5ade6cbbe8c", func := "eden/edenlaw4.CounterPlays", spec := "counterPlays", inPlace := ["internal/reflectlite.TypeOf", "internal/reflectlite.ValueOf", "(internal/reflectlite.Value).Type", "(internal/reflectlite.Value).IsNil", "(internal/reflectlite.Value).Elem", "(internal/reflectlite.Value).Set"], unfollowed := true, recurses := true, named := ["eden/counter.errEnded", "math/bits.divideError", "math/bits.overflowError", "errors.errorType"], plainKeys := false, apart := false, laid := [("errors.errorType", laid_errors_errorType), ("eden/counter.errEnded", laid_eden_counter_errEnded)], narrowed := true }
def CounterPlaysUptoSaid : Prop := counterPlaysUptoRow.holds Tryd.pinned (OpenSpec.upto counterPlaysSpec)

end Rows
end Go.Proofs.YtdkomlgkkepioaaDoor
