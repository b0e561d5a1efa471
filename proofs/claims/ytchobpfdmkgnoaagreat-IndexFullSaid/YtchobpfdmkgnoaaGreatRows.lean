/-
  No cell of these rows narrows 'for every input' (looked for: loops, veiled, ifaces, maps, wideKeys, modest, calm, conditions, laid).
  DERIVED. THE GIVEN ROWS OF THIS SEAT. 8 by the template 'for every input the law returns true; each argument reads behind the call as it read before'; 0 by the template 'total and deterministic' (their statements: YtchobpfdmkgnoaaGreatTotals.lean).
  GIVEN WITH THE SEED: the statements are not yours to turn. If you find one false, say at which input.
  Laid BY PROGRAM, IN A SANDBOX (cutbox-rows.mjs): the forced cells as the released guide's own fill.sh prints them over the translation 121c20ac6ec1f588… (all of the seat's roots in one cut). By AI agents, Wed Nov 11 2026. No macro, syntax, notation, axiom, sorry.
-/
import Derived.Test.YtchobpfdmkgnoaaGreatChecked
import GoSem.Claim
import GoSem.ClaimJoined
import GoSem.ClaimMapViews
import Derived.JoinedTies
import Derived.KernelRfl
namespace Go.Proofs.YtchobpfdmkgnoaaGreat
/- THE CELL 'sum', in the pinned program and in every row, IS THE sha256 OF THE DUMP (.gsa) THAT YtchobpfdmkgnoaaGreatProg.lean LOADS. Nothing in Lean hashes anything: it is a label: what it is worth is what the hold of that sum in a sandbox is worth. -/
noncomputable def Tryz.pinned : Pinned := { name := "ytchobpfdmkgnoaagreat", sum := "121c20ac6ec1f5885b00cab4fc71fa0a8d11780539cc8b00ea7c1460514e7f28", checked := Tryz.checked }
namespace Rows
def none {H : Type} : Left H := { results := [], args := [] }

/-- 'outlawlaw10.IndexNames': WHATEVER THE INPUT: true; the input reads as it did. -/
def indexNamesSpec : ChangeSpec := { name := "indexNames", fn := fun _ => fun
  | [] => { results := [.lit (.bool true)], args := [] }
  | _ => none }
def indexNamesRow : OpenClaim := { program := "ytchobpfdmkgnoaagreat", sum := "121c20ac6ec1f5885b00cab4fc71fa0a8d11780539cc8b00ea7c1460514e7f28", func := "outlaw/outlawlaw10.IndexNames", spec := "indexNames", inPlace := ["internal/bytealg.IndexByteString", "internal/abi.NoEscape", "internal/bytealg.MakeNoZero", "internal/bytealg.IndexString"], unfollowed := true, recurses := true, named := ["internal/bytealg.MaxLen"], apart := false }
def IndexNamesSaid : Prop := indexNamesRow.holds Tryz.pinned (OpenSpec.ofChange indexNamesSpec)

/-- ITS FALSE NEIGHBOUR: 'it returns false'. Refute it at one input. -/
def indexNamesWrong : ChangeSpec := { name := "indexNames", fn := fun _ => fun
  | [] => { results := [.lit (.bool false)], args := [] }
  | _ => none }
def IndexNamesWrongFalsely : Prop := indexNamesRow.holds Tryz.pinned (OpenSpec.ofChange indexNamesWrong)

/-- 'outlawlaw10.IndexScript': WHATEVER THE INPUT: true; the input reads as it did. -/
def indexScriptSpec : ChangeSpec := { name := "indexScript", fn := fun _ => fun
  | [d1, d2] => { results := [.lit (.bool true)], args := [d1, d2] }
  | _ => none }
def indexScriptRow : OpenClaim := { program := "ytchobpfdmkgnoaagreat", sum := "121c20ac6ec1f5885b00cab4fc71fa0a8d11780539cc8b00ea7c1460514e7f28", func := "outlaw/outlawlaw10.IndexScript", spec := "indexScript", inPlace := ["internal/bytealg.IndexByteString", "internal/abi.NoEscape", "internal/bytealg.MakeNoZero", "internal/bytealg.IndexString"], unfollowed := true, recurses := true, named := ["internal/bytealg.MaxLen"], apart := false }
def IndexScriptSaid : Prop := indexScriptRow.holds Tryz.pinned (OpenSpec.ofChange indexScriptSpec)

/-- ITS FALSE NEIGHBOUR: 'it returns false'. Refute it at one input. -/
def indexScriptWrong : ChangeSpec := { name := "indexScript", fn := fun _ => fun
  | [d1, d2] => { results := [.lit (.bool false)], args := [d1, d2] }
  | _ => none }
def IndexScriptWrongFalsely : Prop := indexScriptRow.holds Tryz.pinned (OpenSpec.ofChange indexScriptWrong)

/-- 'outlawlaw10.IndexMost': WHATEVER THE INPUT: true; the input reads as it did. -/
def indexMostSpec : ChangeSpec := { name := "indexMost", fn := fun _ => fun
  | [d1, d2, d3, d4] => { results := [.lit (.bool true)], args := [d1, d2, d3, d4] }
  | _ => none }
def indexMostRow : OpenClaim := { program := "ytchobpfdmkgnoaagreat", sum := "121c20ac6ec1f5885b00cab4fc71fa0a8d11780539cc8b00ea7c1460514e7f28", func := "outlaw/outlawlaw10.IndexMost", spec := "indexMost", inPlace := ["internal/bytealg.IndexByteString", "internal/abi.NoEscape", "internal/bytealg.MakeNoZero", "internal/bytealg.IndexString", "internal/bytealg.CountString"], unfollowed := true, recurses := true, named := ["internal/bytealg.MaxLen"], apart := false }
def IndexMostSaid : Prop := indexMostRow.holds Tryz.pinned (OpenSpec.ofChange indexMostSpec)

/-- ITS FALSE NEIGHBOUR: 'it returns false'. Refute it at one input. -/
def indexMostWrong : ChangeSpec := { name := "indexMost", fn := fun _ => fun
  | [d1, d2, d3, d4] => { results := [.lit (.bool false)], args := [d1, d2, d3, d4] }
  | _ => none }
def IndexMostWrongFalsely : Prop := indexMostRow.holds Tryz.pinned (OpenSpec.ofChange indexMostWrong)

/-- 'outlawlaw10.IndexDrop': WHATEVER THE INPUT: true; the input reads as it did. -/
def indexDropSpec : ChangeSpec := { name := "indexDrop", fn := fun _ => fun
  | [d1, d2, d3, d4, d5] => { results := [.lit (.bool true)], args := [d1, d2, d3, d4, d5] }
  | _ => none }
def indexDropRow : OpenClaim := { program := "ytchobpfdmkgnoaagreat", sum := "121c20ac6ec1f5885b00cab4fc71fa0a8d11780539cc8b00ea7c1460514e7f28", func := "outlaw/outlawlaw10.IndexDrop", spec := "indexDrop", inPlace := ["internal/bytealg.IndexByteString", "internal/abi.NoEscape", "internal/bytealg.MakeNoZero", "internal/bytealg.IndexString"], unfollowed := true, recurses := true, named := ["internal/bytealg.MaxLen"], apart := false }
def IndexDropSaid : Prop := indexDropRow.holds Tryz.pinned (OpenSpec.ofChange indexDropSpec)

/-- ITS FALSE NEIGHBOUR: 'it returns false'. Refute it at one input. -/
def indexDropWrong : ChangeSpec := { name := "indexDrop", fn := fun _ => fun
  | [d1, d2, d3, d4, d5] => { results := [.lit (.bool false)], args := [d1, d2, d3, d4, d5] }
  | _ => none }
def IndexDropWrongFalsely : Prop := indexDropRow.holds Tryz.pinned (OpenSpec.ofChange indexDropWrong)

/-- 'outlawlaw10.IndexFull': WHATEVER THE INPUT: true; the input reads as it did. -/
def indexFullSpec : ChangeSpec := { name := "indexFull", fn := fun _ => fun
  | [d1, d2] => { results := [.lit (.bool true)], args := [d1, d2] }
  | _ => none }
def indexFullRow : OpenClaim := { program := "ytchobpfdmkgnoaagreat", sum := "121c20ac6ec1f5885b00cab4fc71fa0a8d11780539cc8b00ea7c1460514e7f28", func := "outlaw/outlawlaw10.IndexFull", spec := "indexFull", inPlace := ["internal/bytealg.IndexByteString", "internal/abi.NoEscape", "internal/bytealg.MakeNoZero", "internal/bytealg.IndexString"], unfollowed := true, recurses := true, named := ["internal/bytealg.MaxLen"], apart := false }
def IndexFullSaid : Prop := indexFullRow.holds Tryz.pinned (OpenSpec.ofChange indexFullSpec)

/-- ITS FALSE NEIGHBOUR: 'it returns false'. Refute it at one input. -/
def indexFullWrong : ChangeSpec := { name := "indexFull", fn := fun _ => fun
  | [d1, d2] => { results := [.lit (.bool false)], args := [d1, d2] }
  | _ => none }
def IndexFullWrongFalsely : Prop := indexFullRow.holds Tryz.pinned (OpenSpec.ofChange indexFullWrong)

/-- 'outlawlaw10.IndexNil': WHATEVER THE INPUT: true; the input reads as it did. -/
def indexNilSpec : ChangeSpec := { name := "indexNil", fn := fun _ => fun
  | [d] => { results := [.lit (.bool true)], args := [d] }
  | _ => none }
def indexNilRow : OpenClaim := { program := "ytchobpfdmkgnoaagreat", sum := "121c20ac6ec1f5885b00cab4fc71fa0a8d11780539cc8b00ea7c1460514e7f28", func := "outlaw/outlawlaw10.IndexNil", spec := "indexNil", inPlace := ["internal/bytealg.IndexByteString", "internal/abi.NoEscape", "internal/bytealg.MakeNoZero", "internal/bytealg.IndexString"], unfollowed := true, recurses := true, named := ["internal/bytealg.MaxLen"], apart := false }
def IndexNilSaid : Prop := indexNilRow.holds Tryz.pinned (OpenSpec.ofChange indexNilSpec)

/-- ITS FALSE NEIGHBOUR: 'it returns false'. Refute it at one input. -/
def indexNilWrong : ChangeSpec := { name := "indexNil", fn := fun _ => fun
  | [d] => { results := [.lit (.bool false)], args := [d] }
  | _ => none }
def IndexNilWrongFalsely : Prop := indexNilRow.holds Tryz.pinned (OpenSpec.ofChange indexNilWrong)

/-- 'outlawlaw09.DfaCalls': WHATEVER THE INPUT: true; the input reads as it did. -/
def dfaCallsSpec : ChangeSpec := { name := "dfaCalls", fn := fun _ => fun
  | [d1, d2, d3, d4, d5, d6] => { results := [.lit (.bool true)], args := [d1, d2, d3, d4, d5, d6] }
  | _ => none }
def dfaCallsRow : OpenClaim := { program := "ytchobpfdmkgnoaagreat", sum := "121c20ac6ec1f5885b00cab4fc71fa0a8d11780539cc8b00ea7c1460514e7f28", func := "outlaw/outlawlaw09.DfaCalls", spec := "dfaCalls", inPlace := ["internal/abi.NoEscape", "internal/bytealg.MakeNoZero", "internal/bytealg.IndexByteString", "internal/bytealg.IndexString"], unfollowed := true, recurses := true, named := ["internal/bytealg.MaxLen"], apart := false }
def DfaCallsSaid : Prop := dfaCallsRow.holds Tryz.pinned (OpenSpec.ofChange dfaCallsSpec)

/-- ITS FALSE NEIGHBOUR: 'it returns false'. Refute it at one input. -/
def dfaCallsWrong : ChangeSpec := { name := "dfaCalls", fn := fun _ => fun
  | [d1, d2, d3, d4, d5, d6] => { results := [.lit (.bool false)], args := [d1, d2, d3, d4, d5, d6] }
  | _ => none }
def DfaCallsWrongFalsely : Prop := dfaCallsRow.holds Tryz.pinned (OpenSpec.ofChange dfaCallsWrong)

/-- 'outlawlaw09.DfaAuto': WHATEVER THE INPUT: true; the input reads as it did. -/
def dfaAutoSpec : ChangeSpec := { name := "dfaAuto", fn := fun _ => fun
  | [d1, d2, d3, d4] => { results := [.lit (.bool true)], args := [d1, d2, d3, d4] }
  | _ => none }
def dfaAutoRow : OpenClaim := { program := "ytchobpfdmkgnoaagreat", sum := "121c20ac6ec1f5885b00cab4fc71fa0a8d11780539cc8b00ea7c1460514e7f28", func := "outlaw/outlawlaw09.DfaAuto", spec := "dfaAuto", inPlace := ["internal/abi.NoEscape", "internal/bytealg.MakeNoZero", "internal/bytealg.IndexByteString", "internal/bytealg.IndexString", "internal/bytealg.CountString"], unfollowed := true, recurses := true, named := ["internal/bytealg.MaxLen"], apart := false }
def DfaAutoSaid : Prop := dfaAutoRow.holds Tryz.pinned (OpenSpec.ofChange dfaAutoSpec)

/-- ITS FALSE NEIGHBOUR: 'it returns false'. Refute it at one input. -/
def dfaAutoWrong : ChangeSpec := { name := "dfaAuto", fn := fun _ => fun
  | [d1, d2, d3, d4] => { results := [.lit (.bool false)], args := [d1, d2, d3, d4] }
  | _ => none }
def DfaAutoWrongFalsely : Prop := dfaAutoRow.holds Tryz.pinned (OpenSpec.ofChange dfaAutoWrong)

/- THE SECOND FORM. 'bulk': how many values and letters a reading holds, each counted each time it is reached (what is shared counts as often as it is met; a slice's spare places count too). A statement '..UptoSaid' is the law's where the arguments, and the package variables that the reading takes, are together of bulk at most 1048576: NARROWER than '..Said'. Prove '..Said' where nothing that the law and all that it calls make is longer than what came in: it says more and counts as full. Else prove '..UptoSaid'. A law counts once. -/
mutual
def uptoBulk {H : Type} : DataW H → Nat
  | .lit (.string bytes) => bytes.length + 1
  | .lit _ => 1
  | .nil => 1
  | .ptr d => uptoBulk d + 1
  | .slice elems spare => uptoBulkAll elems + uptoBulkAll spare + 1
  | .agg parts => uptoBulkAll parts + 1
  | .iface _ d => uptoBulk d + 1
  | .map entries => uptoBulkEntries entries + 1
  | .held _ => 1
def uptoBulkAll {H : Type} : List (DataW H) → Nat
  | [] => 0
  | d :: r => uptoBulk d + uptoBulkAll r
def uptoBulkEntries {H : Type} : List (Lit × DataW H) → Nat
  | [] => 0
  | x :: r => uptoBulkEntry x + uptoBulkEntries r
def uptoBulkEntry {H : Type} : Lit × DataW H → Nat
  | (.string bytes, d) => bytes.length + uptoBulk d + 1
  | (_, d) => uptoBulk d + 1
 end
def uptoSmall : (H : Type) → List (DataW H) → Bool := fun _ ds => decide (uptoBulkAll ds ≤ 1048576)
def OpenSpec.upto (s : _root_.Go.ChangeSpec) : _root_.Go.OpenSpec := { _root_.Go.OpenSpec.ofChange s with cond := some uptoSmall }

/-- 'outlawlaw10.IndexNames', WHERE WHAT IT READS IS OF BULK AT MOST 1048576: true; the input reads as it did. -/
def indexNamesUptoRow : OpenClaim := { program := "ytchobpfdmkgnoaagreat", sum := "121c20ac6ec1f5885b00cab4fc71fa0a8d11780539cc8b00ea7c1460514e7f28", func := "outlaw/outlawlaw10.IndexNames", spec := "indexNames", inPlace := ["internal/bytealg.IndexByteString", "internal/abi.NoEscape", "internal/bytealg.MakeNoZero", "internal/bytealg.IndexString"], unfollowed := true, recurses := true, named := ["internal/bytealg.MaxLen"], apart := false, narrowed := true }
def IndexNamesUptoSaid : Prop := indexNamesUptoRow.holds Tryz.pinned (OpenSpec.upto indexNamesSpec)

/-- 'outlawlaw10.IndexScript', WHERE WHAT IT READS IS OF BULK AT MOST 1048576: true; the input reads as it did. -/
def indexScriptUptoRow : OpenClaim := { program := "ytchobpfdmkgnoaagreat", sum := "121c20ac6ec1f5885b00cab4fc71fa0a8d11780539cc8b00ea7c1460514e7f28", func := "outlaw/outlawlaw10.IndexScript", spec := "indexScript", inPlace := ["internal/bytealg.IndexByteString", "internal/abi.NoEscape", "internal/bytealg.MakeNoZero", "internal/bytealg.IndexString"], unfollowed := true, recurses := true, named := ["internal/bytealg.MaxLen"], apart := false, narrowed := true }
def IndexScriptUptoSaid : Prop := indexScriptUptoRow.holds Tryz.pinned (OpenSpec.upto indexScriptSpec)

/-- 'outlawlaw10.IndexMost', WHERE WHAT IT READS IS OF BULK AT MOST 1048576: true; the input reads as it did. -/
def indexMostUptoRow : OpenClaim := { program := "ytchobpfdmkgnoaagreat", sum := "121c20ac6ec1f5885b00cab4fc71fa0a8d11780539cc8b00ea7c1460514e7f28", func := "outlaw/outlawlaw10.IndexMost", spec := "indexMost", inPlace := ["internal/bytealg.IndexByteString", "internal/abi.NoEscape", "internal/bytealg.MakeNoZero", "internal/bytealg.IndexString", "internal/bytealg.CountString"], unfollowed := true, recurses := true, named := ["internal/bytealg.MaxLen"], apart := false, narrowed := true }
def IndexMostUptoSaid : Prop := indexMostUptoRow.holds Tryz.pinned (OpenSpec.upto indexMostSpec)

/-- 'outlawlaw10.IndexDrop', WHERE WHAT IT READS IS OF BULK AT MOST 1048576: true; the input reads as it did. -/
def indexDropUptoRow : OpenClaim := { program := "ytchobpfdmkgnoaagreat", sum := "121c20ac6ec1f5885b00cab4fc71fa0a8d11780539cc8b00ea7c1460514e7f28", func := "outlaw/outlawlaw10.IndexDrop", spec := "indexDrop", inPlace := ["internal/bytealg.IndexByteString", "internal/abi.NoEscape", "internal/bytealg.MakeNoZero", "internal/bytealg.IndexString"], unfollowed := true, recurses := true, named := ["internal/bytealg.MaxLen"], apart := false, narrowed := true }
def IndexDropUptoSaid : Prop := indexDropUptoRow.holds Tryz.pinned (OpenSpec.upto indexDropSpec)

/-- 'outlawlaw10.IndexFull', WHERE WHAT IT READS IS OF BULK AT MOST 1048576: true; the input reads as it did. -/
def indexFullUptoRow : OpenClaim := { program := "ytchobpfdmkgnoaagreat", sum := "121c20ac6ec1f5885b00cab4fc71fa0a8d11780539cc8b00ea7c1460514e7f28", func := "outlaw/outlawlaw10.IndexFull", spec := "indexFull", inPlace := ["internal/bytealg.IndexByteString", "internal/abi.NoEscape", "internal/bytealg.MakeNoZero", "internal/bytealg.IndexString"], unfollowed := true, recurses := true, named := ["internal/bytealg.MaxLen"], apart := false, narrowed := true }
def IndexFullUptoSaid : Prop := indexFullUptoRow.holds Tryz.pinned (OpenSpec.upto indexFullSpec)

/-- 'outlawlaw10.IndexNil', WHERE WHAT IT READS IS OF BULK AT MOST 1048576: true; the input reads as it did. -/
def indexNilUptoRow : OpenClaim := { program := "ytchobpfdmkgnoaagreat", sum := "121c20ac6ec1f5885b00cab4fc71fa0a8d11780539cc8b00ea7c1460514e7f28", func := "outlaw/outlawlaw10.IndexNil", spec := "indexNil", inPlace := ["internal/bytealg.IndexByteString", "internal/abi.NoEscape", "internal/bytealg.MakeNoZero", "internal/bytealg.IndexString"], unfollowed := true, recurses := true, named := ["internal/bytealg.MaxLen"], apart := false, narrowed := true }
def IndexNilUptoSaid : Prop := indexNilUptoRow.holds Tryz.pinned (OpenSpec.upto indexNilSpec)

/-- 'outlawlaw09.DfaCalls', WHERE WHAT IT READS IS OF BULK AT MOST 1048576: true; the input reads as it did. -/
def dfaCallsUptoRow : OpenClaim := { program := "ytchobpfdmkgnoaagreat", sum := "121c20ac6ec1f5885b00cab4fc71fa0a8d11780539cc8b00ea7c1460514e7f28", func := "outlaw/outlawlaw09.DfaCalls", spec := "dfaCalls", inPlace := ["internal/abi.NoEscape", "internal/bytealg.MakeNoZero", "internal/bytealg.IndexByteString", "internal/bytealg.IndexString"], unfollowed := true, recurses := true, named := ["internal/bytealg.MaxLen"], apart := false, narrowed := true }
def DfaCallsUptoSaid : Prop := dfaCallsUptoRow.holds Tryz.pinned (OpenSpec.upto dfaCallsSpec)

/-- 'outlawlaw09.DfaAuto', WHERE WHAT IT READS IS OF BULK AT MOST 1048576: true; the input reads as it did. -/
def dfaAutoUptoRow : OpenClaim := { program := "ytchobpfdmkgnoaagreat", sum := "121c20ac6ec1f5885b00cab4fc71fa0a8d11780539cc8b00ea7c1460514e7f28", func := "outlaw/outlawlaw09.DfaAuto", spec := "dfaAuto", inPlace := ["internal/abi.NoEscape", "internal/bytealg.MakeNoZero", "internal/bytealg.IndexByteString", "internal/bytealg.IndexString", "internal/bytealg.CountString"], unfollowed := true, recurses := true, named := ["internal/bytealg.MaxLen"], apart := false, narrowed := true }
def DfaAutoUptoSaid : Prop := dfaAutoUptoRow.holds Tryz.pinned (OpenSpec.upto dfaAutoSpec)

end Rows
end Go.Proofs.YtchobpfdmkgnoaaGreat
