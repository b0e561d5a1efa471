/-
  No cell of these rows narrows 'for every input' (looked for: loops, veiled, ifaces, maps, wideKeys, modest, calm, conditions, laid).
  DERIVED. THE GIVEN ROWS OF THIS SEAT. 5 by the template 'for every input the law returns true; each argument reads behind the call as it read before'; 0 by the template 'total and deterministic' (their statements: YtnpgmekgmelamaaGreatTotals.lean).
  GIVEN WITH THE SEED: the statements are not yours to turn. If you find one false, say at which input.
  Laid BY PROGRAM, IN A SANDBOX (cutbox-rows.mjs): the forced cells as the released guide's own fill.sh prints them over the translation c99c1cd7e8763499… (all of the seat's roots in one cut). By AI agents, Wed Nov 11 2026. No macro, syntax, notation, axiom, sorry.
-/
import Derived.Test.YtnpgmekgmelamaaGreatChecked
import GoSem.Claim
import GoSem.ClaimJoined
import GoSem.ClaimMapViews
import Derived.JoinedTies
import Derived.KernelRfl
namespace Go.Proofs.YtnpgmekgmelamaaGreat
/- THE CELL 'sum', in the pinned program and in every row, IS THE sha256 OF THE DUMP (.gsa) THAT YtnpgmekgmelamaaGreatProg.lean LOADS. Nothing in Lean hashes anything: it is a label: what it is worth is what the hold of that sum in a sandbox is worth. -/
noncomputable def Tryz.pinned : Pinned := { name := "ytnpgmekgmelamaagreat", sum := "c99c1cd7e876349969e6eecf913b00ce48186578589ae7004ac57f4033abb283", checked := Tryz.checked }
namespace Rows
def none {H : Type} : Left H := { results := [], args := [] }

/-- 'outlawlaw09.DfaCalls': WHATEVER THE INPUT: true; the input reads as it did. -/
def dfaCallsSpec : ChangeSpec := { name := "dfaCalls", fn := fun _ => fun
  | [d1, d2, d3, d4, d5, d6] => { results := [.lit (.bool true)], args := [d1, d2, d3, d4, d5, d6] }
  | _ => none }
def dfaCallsRow : OpenClaim := { program := "ytnpgmekgmelamaagreat", sum := "c99c1cd7e876349969e6eecf913b00ce48186578589ae7004ac57f4033abb283", func := "outlaw/outlawlaw09.DfaCalls", spec := "dfaCalls", inPlace := ["internal/abi.NoEscape", "internal/bytealg.MakeNoZero", "internal/bytealg.IndexByteString", "internal/bytealg.IndexString"], unfollowed := true, recurses := true, named := ["internal/bytealg.MaxLen"], apart := false }
def DfaCallsSaid : Prop := dfaCallsRow.holds Tryz.pinned (OpenSpec.ofChange dfaCallsSpec)

/-- ITS FALSE NEIGHBOUR: 'it returns false'. Refute it at one input. -/
def dfaCallsWrong : ChangeSpec := { name := "dfaCalls", fn := fun _ => fun
  | [d1, d2, d3, d4, d5, d6] => { results := [.lit (.bool false)], args := [d1, d2, d3, d4, d5, d6] }
  | _ => none }
def DfaCallsWrongFalsely : Prop := dfaCallsRow.holds Tryz.pinned (OpenSpec.ofChange dfaCallsWrong)

/-- 'outlawlaw09.DfaAuto': WHATEVER THE INPUT: true; the input reads as it did. -/
def dfaAutoSpec : ChangeSpec := { name := "dfaAuto", fn := fun _ => fun
  | [d1, d2, d3, d4] => { results := [.lit (.bool true)], args := [d1, d2, d3, d4] }
  | _ => none }
def dfaAutoRow : OpenClaim := { program := "ytnpgmekgmelamaagreat", sum := "c99c1cd7e876349969e6eecf913b00ce48186578589ae7004ac57f4033abb283", func := "outlaw/outlawlaw09.DfaAuto", spec := "dfaAuto", inPlace := ["internal/abi.NoEscape", "internal/bytealg.MakeNoZero", "internal/bytealg.IndexByteString", "internal/bytealg.IndexString", "internal/bytealg.CountString"], unfollowed := true, recurses := true, named := ["internal/bytealg.MaxLen"], apart := false }
def DfaAutoSaid : Prop := dfaAutoRow.holds Tryz.pinned (OpenSpec.ofChange dfaAutoSpec)

/-- ITS FALSE NEIGHBOUR: 'it returns false'. Refute it at one input. -/
def dfaAutoWrong : ChangeSpec := { name := "dfaAuto", fn := fun _ => fun
  | [d1, d2, d3, d4] => { results := [.lit (.bool false)], args := [d1, d2, d3, d4] }
  | _ => none }
def DfaAutoWrongFalsely : Prop := dfaAutoRow.holds Tryz.pinned (OpenSpec.ofChange dfaAutoWrong)

/-- 'outlawlaw10.IndexScript': WHATEVER THE INPUT: true; the input reads as it did. -/
def indexScriptSpec : ChangeSpec := { name := "indexScript", fn := fun _ => fun
  | [d1, d2] => { results := [.lit (.bool true)], args := [d1, d2] }
  | _ => none }
def indexScriptRow : OpenClaim := { program := "ytnpgmekgmelamaagreat", sum := "c99c1cd7e876349969e6eecf913b00ce48186578589ae7004ac57f4033abb283", func := "outlaw/outlawlaw10.IndexScript", spec := "indexScript", inPlace := ["internal/bytealg.IndexByteString", "internal/abi.NoEscape", "internal/bytealg.MakeNoZero", "internal/bytealg.IndexString"], unfollowed := true, recurses := true, named := ["internal/bytealg.MaxLen"], apart := false }
def IndexScriptSaid : Prop := indexScriptRow.holds Tryz.pinned (OpenSpec.ofChange indexScriptSpec)

/-- ITS FALSE NEIGHBOUR: 'it returns false'. Refute it at one input. -/
def indexScriptWrong : ChangeSpec := { name := "indexScript", fn := fun _ => fun
  | [d1, d2] => { results := [.lit (.bool false)], args := [d1, d2] }
  | _ => none }
def IndexScriptWrongFalsely : Prop := indexScriptRow.holds Tryz.pinned (OpenSpec.ofChange indexScriptWrong)

/-- 'outlawlaw10.IndexMost': WHATEVER THE INPUT: true; the input reads as it did. -/
def indexMostSpec : ChangeSpec := { name := "indexMost", fn := fun _ => fun
  | [d1, d2, d3, d4] => { results := [.lit (.bool true)], args := [d1, d2, d3, d4] }
  | _ => none }
def indexMostRow : OpenClaim := { program := "ytnpgmekgmelamaagreat", sum := "c99c1cd7e876349969e6eecf913b00ce48186578589ae7004ac57f4033abb283", func := "outlaw/outlawlaw10.IndexMost", spec := "indexMost", inPlace := ["internal/bytealg.IndexByteString", "internal/abi.NoEscape", "internal/bytealg.MakeNoZero", "internal/bytealg.IndexString", "internal/bytealg.CountString"], unfollowed := true, recurses := true, named := ["internal/bytealg.MaxLen"], apart := false }
def IndexMostSaid : Prop := indexMostRow.holds Tryz.pinned (OpenSpec.ofChange indexMostSpec)

/-- ITS FALSE NEIGHBOUR: 'it returns false'. Refute it at one input. -/
def indexMostWrong : ChangeSpec := { name := "indexMost", fn := fun _ => fun
  | [d1, d2, d3, d4] => { results := [.lit (.bool false)], args := [d1, d2, d3, d4] }
  | _ => none }
def IndexMostWrongFalsely : Prop := indexMostRow.holds Tryz.pinned (OpenSpec.ofChange indexMostWrong)

/-- 'outlawlaw10.IndexDrop': WHATEVER THE INPUT: true; the input reads as it did. -/
def indexDropSpec : ChangeSpec := { name := "indexDrop", fn := fun _ => fun
  | [d1, d2, d3, d4, d5] => { results := [.lit (.bool true)], args := [d1, d2, d3, d4, d5] }
  | _ => none }
def indexDropRow : OpenClaim := { program := "ytnpgmekgmelamaagreat", sum := "c99c1cd7e876349969e6eecf913b00ce48186578589ae7004ac57f4033abb283", func := "outlaw/outlawlaw10.IndexDrop", spec := "indexDrop", inPlace := ["internal/bytealg.IndexByteString", "internal/abi.NoEscape", "internal/bytealg.MakeNoZero", "internal/bytealg.IndexString"], unfollowed := true, recurses := true, named := ["internal/bytealg.MaxLen"], apart := false }
def IndexDropSaid : Prop := indexDropRow.holds Tryz.pinned (OpenSpec.ofChange indexDropSpec)

/-- ITS FALSE NEIGHBOUR: 'it returns false'. Refute it at one input. -/
def indexDropWrong : ChangeSpec := { name := "indexDrop", fn := fun _ => fun
  | [d1, d2, d3, d4, d5] => { results := [.lit (.bool false)], args := [d1, d2, d3, d4, d5] }
  | _ => none }
def IndexDropWrongFalsely : Prop := indexDropRow.holds Tryz.pinned (OpenSpec.ofChange indexDropWrong)

/- THE SECOND FORM. 'bulk': how many values and letters a reading holds, each counted each time it is reached (what is shared counts as often as it is met; a slice's spare places count too). A statement '..UptoSaid' is the law's where the arguments, and the package variables that the reading takes, are together of bulk at most 1048576: NARROWER than '..Said'. Prove '..Said' where nothing that the law and all that it calls make is longer than what came in: it says more and counts as full. Else prove '..UptoSaid'. A law counts once. -/
mutual
def uptoBulk {H : Type} : DataW H → Nat
  | .lit (.string bytes) => bytes.length + 1
  | .lit _ => 1
  | .nil => 1
  | .ptr d => uptoBulk d + 1
  | .slice elems spare => uptoBulkAll elems + uptoBulkAll spare + 1
  | .agg parts => uptoBulkAll parts + 1
  | .iface _ d => uptoBulk d + 1
  | .map entries => uptoBulkEntries entries + 1
  | .held _ => 1
def uptoBulkAll {H : Type} : List (DataW H) → Nat
  | [] => 0
  | d :: r => uptoBulk d + uptoBulkAll r
def uptoBulkEntries {H : Type} : List (Lit × DataW H) → Nat
  | [] => 0
  | x :: r => uptoBulkEntry x + uptoBulkEntries r
def uptoBulkEntry {H : Type} : Lit × DataW H → Nat
  | (.string bytes, d) => bytes.length + uptoBulk d + 1
  | (_, d) => uptoBulk d + 1
 end
def uptoSmall : (H : Type) → List (DataW H) → Bool := fun _ ds => decide (uptoBulkAll ds ≤ 1048576)
def OpenSpec.upto (s : _root_.Go.ChangeSpec) : _root_.Go.OpenSpec := { _root_.Go.OpenSpec.ofChange s with cond := some uptoSmall }

/-- 'outlawlaw09.DfaCalls', WHERE WHAT IT READS IS OF BULK AT MOST 1048576: true; the input reads as it did. -/
def dfaCallsUptoRow : OpenClaim := { program := "ytnpgmekgmelamaagreat", sum := "c99c1cd7e876349969e6eecf913b00ce48186578589ae7004ac57f4033abb283", func := "outlaw/outlawlaw09.DfaCalls", spec := "dfaCalls", inPlace := ["internal/abi.NoEscape", "internal/bytealg.MakeNoZero", "internal/bytealg.IndexByteString", "internal/bytealg.IndexString"], unfollowed := true, recurses := true, named := ["internal/bytealg.MaxLen"], apart := false, narrowed := true }
def DfaCallsUptoSaid : Prop := dfaCallsUptoRow.holds Tryz.pinned (OpenSpec.upto dfaCallsSpec)

/-- 'outlawlaw09.DfaAuto', WHERE WHAT IT READS IS OF BULK AT MOST 1048576: true; the input reads as it did. -/
def dfaAutoUptoRow : OpenClaim := { program := "ytnpgmekgmelamaagreat", sum := "c99c1cd7e876349969e6eecf913b00ce48186578589ae7004ac57f4033abb283", func := "outlaw/outlawlaw09.DfaAuto", spec := "dfaAuto", inPlace := ["internal/abi.NoEscape", "internal/bytealg.MakeNoZero", "internal/bytealg.IndexByteString", "internal/bytealg.IndexString", "internal/bytealg.CountString"], unfollowed := true, recurses := true, named := ["internal/bytealg.MaxLen"], apart := false, narrowed := true }
def DfaAutoUptoSaid : Prop := dfaAutoUptoRow.holds Tryz.pinned (OpenSpec.upto dfaAutoSpec)

/-- 'outlawlaw10.IndexScript', WHERE WHAT IT READS IS OF BULK AT MOST 1048576: true; the input reads as it did. -/
def indexScriptUptoRow : OpenClaim := { program := "ytnpgmekgmelamaagreat", sum := "c99c1cd7e876349969e6eecf913b00ce48186578589ae7004ac57f4033abb283", func := "outlaw/outlawlaw10.IndexScript", spec := "indexScript", inPlace := ["internal/bytealg.IndexByteString", "internal/abi.NoEscape", "internal/bytealg.MakeNoZero", "internal/bytealg.IndexString"], unfollowed := true, recurses := true, named := ["internal/bytealg.MaxLen"], apart := false, narrowed := true }
def IndexScriptUptoSaid : Prop := indexScriptUptoRow.holds Tryz.pinned (OpenSpec.upto indexScriptSpec)

/-- 'outlawlaw10.IndexMost', WHERE WHAT IT READS IS OF BULK AT MOST 1048576: true; the input reads as it did. -/
def indexMostUptoRow : OpenClaim := { program := "ytnpgmekgmelamaagreat", sum := "c99c1cd7e876349969e6eecf913b00ce48186578589ae7004ac57f4033abb283", func := "outlaw/outlawlaw10.IndexMost", spec := "indexMost", inPlace := ["internal/bytealg.IndexByteString", "internal/abi.NoEscape", "internal/bytealg.MakeNoZero", "internal/bytealg.IndexString", "internal/bytealg.CountString"], unfollowed := true, recurses := true, named := ["internal/bytealg.MaxLen"], apart := false, narrowed := true }
def IndexMostUptoSaid : Prop := indexMostUptoRow.holds Tryz.pinned (OpenSpec.upto indexMostSpec)

/-- 'outlawlaw10.IndexDrop', WHERE WHAT IT READS IS OF BULK AT MOST 1048576: true; the input reads as it did. -/
def indexDropUptoRow : OpenClaim := { program := "ytnpgmekgmelamaagreat", sum := "c99c1cd7e876349969e6eecf913b00ce48186578589ae7004ac57f4033abb283", func := "outlaw/outlawlaw10.IndexDrop", spec := "indexDrop", inPlace := ["internal/bytealg.IndexByteString", "internal/abi.NoEscape", "internal/bytealg.MakeNoZero", "internal/bytealg.IndexString"], unfollowed := true, recurses := true, named := ["internal/bytealg.MaxLen"], apart := false, narrowed := true }
def IndexDropUptoSaid : Prop := indexDropUptoRow.holds Tryz.pinned (OpenSpec.upto indexDropSpec)

end Rows
end Go.Proofs.YtnpgmekgmelamaaGreat
