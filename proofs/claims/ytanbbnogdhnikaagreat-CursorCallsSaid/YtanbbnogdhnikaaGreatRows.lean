/-
  No cell of these rows narrows 'for every input' (looked for: loops, veiled, ifaces, maps, wideKeys, modest, calm, conditions, laid).
  DERIVED. THE GIVEN ROWS OF THIS SEAT. 7 by the template 'for every input the law returns true; each argument reads behind the call as it read before'; 0 by the template 'total and deterministic' (their statements: YtanbbnogdhnikaaGreatTotals.lean).
  GIVEN WITH THE SEED: the statements are not yours to turn. If you find one false, say at which input.
  Laid BY PROGRAM, IN A SANDBOX (cutbox-rows.mjs): the forced cells as the released guide's own fill.sh prints them over the translation 074b4c2810e77eb6… (all of the seat's roots in one cut). By AI agents, Wed Nov 11 2026. No macro, syntax, notation, axiom, sorry.
-/
import Derived.Test.YtanbbnogdhnikaaGreatChecked
import GoSem.Claim
import GoSem.ClaimJoined
import GoSem.ClaimMapViews
import Derived.JoinedTies
import Derived.KernelRfl
namespace Go.Proofs.YtanbbnogdhnikaaGreat
/- THE CELL 'sum', in the pinned program and in every row, IS THE sha256 OF THE DUMP (.gsa) THAT YtanbbnogdhnikaaGreatProg.lean LOADS. Nothing in Lean hashes anything: it is a label: what it is worth is what the hold of that sum in a sandbox is worth. -/
noncomputable def Tryz.pinned : Pinned := { name := "ytanbbnogdhnikaagreat", sum := "074b4c2810e77eb639f49fce80a6507099ee700091e1d374c2f1f494b0ad1b1e", checked := Tryz.checked }
namespace Rows
def none {H : Type} : Left H := { results := [], args := [] }

/-- 'careenagelaw12.CursorNames': WHATEVER THE INPUT: true; the input reads as it did. -/
def cursorNamesSpec : ChangeSpec := { name := "cursorNames", fn := fun _ => fun
  | [] => { results := [.lit (.bool true)], args := [] }
  | _ => none }
def cursorNamesRow : OpenClaim := { program := "ytanbbnogdhnikaagreat", sum := "074b4c2810e77eb639f49fce80a6507099ee700091e1d374c2f1f494b0ad1b1e", func := "careenage/careenagelaw12.CursorNames", spec := "cursorNames", inPlace := ["internal/abi.NoEscape"], unfollowed := true, recurses := true, apart := false }
def CursorNamesSaid : Prop := cursorNamesRow.holds Tryz.pinned (OpenSpec.ofChange cursorNamesSpec)

/-- ITS FALSE NEIGHBOUR: 'it returns false'. Refute it at one input. -/
def cursorNamesWrong : ChangeSpec := { name := "cursorNames", fn := fun _ => fun
  | [] => { results := [.lit (.bool false)], args := [] }
  | _ => none }
def CursorNamesWrongFalsely : Prop := cursorNamesRow.holds Tryz.pinned (OpenSpec.ofChange cursorNamesWrong)

/-- 'careenagelaw12.CursorCalls': WHATEVER THE INPUT: true; the input reads as it did. -/
def cursorCallsSpec : ChangeSpec := { name := "cursorCalls", fn := fun _ => fun
  | [d1, d2, d3, d4] => { results := [.lit (.bool true)], args := [d1, d2, d3, d4] }
  | _ => none }
def cursorCallsRow : OpenClaim := { program := "ytanbbnogdhnikaagreat", sum := "074b4c2810e77eb639f49fce80a6507099ee700091e1d374c2f1f494b0ad1b1e", func := "careenage/careenagelaw12.CursorCalls", spec := "cursorCalls", inPlace := ["internal/abi.NoEscape"], unfollowed := true, recurses := true, apart := false }
def CursorCallsSaid : Prop := cursorCallsRow.holds Tryz.pinned (OpenSpec.ofChange cursorCallsSpec)

/-- ITS FALSE NEIGHBOUR: 'it returns false'. Refute it at one input. -/
def cursorCallsWrong : ChangeSpec := { name := "cursorCalls", fn := fun _ => fun
  | [d1, d2, d3, d4] => { results := [.lit (.bool false)], args := [d1, d2, d3, d4] }
  | _ => none }
def CursorCallsWrongFalsely : Prop := cursorCallsRow.holds Tryz.pinned (OpenSpec.ofChange cursorCallsWrong)

/-- 'careenagelaw12.CursorFinds': WHATEVER THE INPUT: true; the input reads as it did. -/
def cursorFindsSpec : ChangeSpec := { name := "cursorFinds", fn := fun _ => fun
  | [d1, d2] => { results := [.lit (.bool true)], args := [d1, d2] }
  | _ => none }
def cursorFindsRow : OpenClaim := { program := "ytanbbnogdhnikaagreat", sum := "074b4c2810e77eb639f49fce80a6507099ee700091e1d374c2f1f494b0ad1b1e", func := "careenage/careenagelaw12.CursorFinds", spec := "cursorFinds", inPlace := ["internal/abi.NoEscape"], unfollowed := true, recurses := true, apart := false }
def CursorFindsSaid : Prop := cursorFindsRow.holds Tryz.pinned (OpenSpec.ofChange cursorFindsSpec)

/-- ITS FALSE NEIGHBOUR: 'it returns false'. Refute it at one input. -/
def cursorFindsWrong : ChangeSpec := { name := "cursorFinds", fn := fun _ => fun
  | [d1, d2] => { results := [.lit (.bool false)], args := [d1, d2] }
  | _ => none }
def CursorFindsWrongFalsely : Prop := cursorFindsRow.holds Tryz.pinned (OpenSpec.ofChange cursorFindsWrong)

/-- 'careenagelaw12.CursorPages': WHATEVER THE INPUT: true; the input reads as it did. -/
def cursorPagesSpec : ChangeSpec := { name := "cursorPages", fn := fun _ => fun
  | [d1, d2] => { results := [.lit (.bool true)], args := [d1, d2] }
  | _ => none }
def cursorPagesRow : OpenClaim := { program := "ytanbbnogdhnikaagreat", sum := "074b4c2810e77eb639f49fce80a6507099ee700091e1d374c2f1f494b0ad1b1e", func := "careenage/careenagelaw12.CursorPages", spec := "cursorPages", inPlace := ["internal/abi.NoEscape"], unfollowed := true, recurses := true, apart := false }
def CursorPagesSaid : Prop := cursorPagesRow.holds Tryz.pinned (OpenSpec.ofChange cursorPagesSpec)

/-- ITS FALSE NEIGHBOUR: 'it returns false'. Refute it at one input. -/
def cursorPagesWrong : ChangeSpec := { name := "cursorPages", fn := fun _ => fun
  | [d1, d2] => { results := [.lit (.bool false)], args := [d1, d2] }
  | _ => none }
def CursorPagesWrongFalsely : Prop := cursorPagesRow.holds Tryz.pinned (OpenSpec.ofChange cursorPagesWrong)

/-- 'careenagelaw12.CursorRot': WHATEVER THE INPUT: true; the input reads as it did. -/
def cursorRotSpec : ChangeSpec := { name := "cursorRot", fn := fun _ => fun
  | [d1, d2, d3, d4] => { results := [.lit (.bool true)], args := [d1, d2, d3, d4] }
  | _ => none }
def cursorRotRow : OpenClaim := { program := "ytanbbnogdhnikaagreat", sum := "074b4c2810e77eb639f49fce80a6507099ee700091e1d374c2f1f494b0ad1b1e", func := "careenage/careenagelaw12.CursorRot", spec := "cursorRot", inPlace := ["internal/abi.NoEscape"], unfollowed := true, recurses := true, apart := false }
def CursorRotSaid : Prop := cursorRotRow.holds Tryz.pinned (OpenSpec.ofChange cursorRotSpec)

/-- ITS FALSE NEIGHBOUR: 'it returns false'. Refute it at one input. -/
def cursorRotWrong : ChangeSpec := { name := "cursorRot", fn := fun _ => fun
  | [d1, d2, d3, d4] => { results := [.lit (.bool false)], args := [d1, d2, d3, d4] }
  | _ => none }
def CursorRotWrongFalsely : Prop := cursorRotRow.holds Tryz.pinned (OpenSpec.ofChange cursorRotWrong)

/-- 'careenagelaw12.CursorSame': WHATEVER THE INPUT: true; the input reads as it did. -/
def cursorSameSpec : ChangeSpec := { name := "cursorSame", fn := fun _ => fun
  | [d1, d2, d3] => { results := [.lit (.bool true)], args := [d1, d2, d3] }
  | _ => none }
def cursorSameRow : OpenClaim := { program := "ytanbbnogdhnikaagreat", sum := "074b4c2810e77eb639f49fce80a6507099ee700091e1d374c2f1f494b0ad1b1e", func := "careenage/careenagelaw12.CursorSame", spec := "cursorSame", inPlace := ["internal/abi.NoEscape"], unfollowed := true, recurses := true, apart := false }
def CursorSameSaid : Prop := cursorSameRow.holds Tryz.pinned (OpenSpec.ofChange cursorSameSpec)

/-- ITS FALSE NEIGHBOUR: 'it returns false'. Refute it at one input. -/
def cursorSameWrong : ChangeSpec := { name := "cursorSame", fn := fun _ => fun
  | [d1, d2, d3] => { results := [.lit (.bool false)], args := [d1, d2, d3] }
  | _ => none }
def CursorSameWrongFalsely : Prop := cursorSameRow.holds Tryz.pinned (OpenSpec.ofChange cursorSameWrong)

/-- 'careenagelaw12.CursorWays': WHATEVER THE INPUT: true; the input reads as it did. -/
def cursorWaysSpec : ChangeSpec := { name := "cursorWays", fn := fun _ => fun
  | [d1, d2, d3] => { results := [.lit (.bool true)], args := [d1, d2, d3] }
  | _ => none }
def cursorWaysRow : OpenClaim := { program := "ytanbbnogdhnikaagreat", sum := "074b4c2810e77eb639f49fce80a6507099ee700091e1d374c2f1f494b0ad1b1e", func := "careenage/careenagelaw12.CursorWays", spec := "cursorWays", inPlace := ["internal/abi.NoEscape"], unfollowed := true, recurses := true, apart := false }
def CursorWaysSaid : Prop := cursorWaysRow.holds Tryz.pinned (OpenSpec.ofChange cursorWaysSpec)

/-- ITS FALSE NEIGHBOUR: 'it returns false'. Refute it at one input. -/
def cursorWaysWrong : ChangeSpec := { name := "cursorWays", fn := fun _ => fun
  | [d1, d2, d3] => { results := [.lit (.bool false)], args := [d1, d2, d3] }
  | _ => none }
def CursorWaysWrongFalsely : Prop := cursorWaysRow.holds Tryz.pinned (OpenSpec.ofChange cursorWaysWrong)

/- THE SECOND FORM. 'bulk': how many values and letters a reading holds, each counted each time it is reached (what is shared counts as often as it is met; a slice's spare places count too). A statement '..UptoSaid' is the law's where the arguments, and the package variables that the reading takes, are together of bulk at most 1048576: NARROWER than '..Said'. Prove '..Said' where nothing that the law and all that it calls make is longer than what came in: it says more and counts as full. Else prove '..UptoSaid'. A law counts once. -/
mutual
def uptoBulk {H : Type} : DataW H → Nat
  | .lit (.string bytes) => bytes.length + 1
  | .lit _ => 1
  | .nil => 1
  | .ptr d => uptoBulk d + 1
  | .slice elems spare => uptoBulkAll elems + uptoBulkAll spare + 1
  | .agg parts => uptoBulkAll parts + 1
  | .iface _ d => uptoBulk d + 1
  | .map entries => uptoBulkEntries entries + 1
  | .held _ => 1
def uptoBulkAll {H : Type} : List (DataW H) → Nat
  | [] => 0
  | d :: r => uptoBulk d + uptoBulkAll r
def uptoBulkEntries {H : Type} : List (Lit × DataW H) → Nat
  | [] => 0
  | x :: r => uptoBulkEntry x + uptoBulkEntries r
def uptoBulkEntry {H : Type} : Lit × DataW H → Nat
  | (.string bytes, d) => bytes.length + uptoBulk d + 1
  | (_, d) => uptoBulk d + 1
 end
def uptoSmall : (H : Type) → List (DataW H) → Bool := fun _ ds => decide (uptoBulkAll ds ≤ 1048576)
def OpenSpec.upto (s : _root_.Go.ChangeSpec) : _root_.Go.OpenSpec := { _root_.Go.OpenSpec.ofChange s with cond := some uptoSmall }

/-- 'careenagelaw12.CursorNames', WHERE WHAT IT READS IS OF BULK AT MOST 1048576: true; the input reads as it did. -/
def cursorNamesUptoRow : OpenClaim := { program := "ytanbbnogdhnikaagreat", sum := "074b4c2810e77eb639f49fce80a6507099ee700091e1d374c2f1f494b0ad1b1e", func := "careenage/careenagelaw12.CursorNames", spec := "cursorNames", inPlace := ["internal/abi.NoEscape"], unfollowed := true, recurses := true, apart := false, narrowed := true }
def CursorNamesUptoSaid : Prop := cursorNamesUptoRow.holds Tryz.pinned (OpenSpec.upto cursorNamesSpec)

/-- 'careenagelaw12.CursorCalls', WHERE WHAT IT READS IS OF BULK AT MOST 1048576: true; the input reads as it did. -/
def cursorCallsUptoRow : OpenClaim := { program := "ytanbbnogdhnikaagreat", sum := "074b4c2810e77eb639f49fce80a6507099ee700091e1d374c2f1f494b0ad1b1e", func := "careenage/careenagelaw12.CursorCalls", spec := "cursorCalls", inPlace := ["internal/abi.NoEscape"], unfollowed := true, recurses := true, apart := false, narrowed := true }
def CursorCallsUptoSaid : Prop := cursorCallsUptoRow.holds Tryz.pinned (OpenSpec.upto cursorCallsSpec)

/-- 'careenagelaw12.CursorFinds', WHERE WHAT IT READS IS OF BULK AT MOST 1048576: true; the input reads as it did. -/
def cursorFindsUptoRow : OpenClaim := { program := "ytanbbnogdhnikaagreat", sum := "074b4c2810e77eb639f49fce80a6507099ee700091e1d374c2f1f494b0ad1b1e", func := "careenage/careenagelaw12.CursorFinds", spec := "cursorFinds", inPlace := ["internal/abi.NoEscape"], unfollowed := true, recurses := true, apart := false, narrowed := true }
def CursorFindsUptoSaid : Prop := cursorFindsUptoRow.holds Tryz.pinned (OpenSpec.upto cursorFindsSpec)

/-- 'careenagelaw12.CursorPages', WHERE WHAT IT READS IS OF BULK AT MOST 1048576: true; the input reads as it did. -/
def cursorPagesUptoRow : OpenClaim := { program := "ytanbbnogdhnikaagreat", sum := "074b4c2810e77eb639f49fce80a6507099ee700091e1d374c2f1f494b0ad1b1e", func := "careenage/careenagelaw12.CursorPages", spec := "cursorPages", inPlace := ["internal/abi.NoEscape"], unfollowed := true, recurses := true, apart := false, narrowed := true }
def CursorPagesUptoSaid : Prop := cursorPagesUptoRow.holds Tryz.pinned (OpenSpec.upto cursorPagesSpec)

/-- 'careenagelaw12.CursorRot', WHERE WHAT IT READS IS OF BULK AT MOST 1048576: true; the input reads as it did. -/
def cursorRotUptoRow : OpenClaim := { program := "ytanbbnogdhnikaagreat", sum := "074b4c2810e77eb639f49fce80a6507099ee700091e1d374c2f1f494b0ad1b1e", func := "careenage/careenagelaw12.CursorRot", spec := "cursorRot", inPlace := ["internal/abi.NoEscape"], unfollowed := true, recurses := true, apart := false, narrowed := true }
def CursorRotUptoSaid : Prop := cursorRotUptoRow.holds Tryz.pinned (OpenSpec.upto cursorRotSpec)

/-- 'careenagelaw12.CursorSame', WHERE WHAT IT READS IS OF BULK AT MOST 1048576: true; the input reads as it did. -/
def cursorSameUptoRow : OpenClaim := { program := "ytanbbnogdhnikaagreat", sum := "074b4c2810e77eb639f49fce80a6507099ee700091e1d374c2f1f494b0ad1b1e", func := "careenage/careenagelaw12.CursorSame", spec := "cursorSame", inPlace := ["internal/abi.NoEscape"], unfollowed := true, recurses := true, apart := false, narrowed := true }
def CursorSameUptoSaid : Prop := cursorSameUptoRow.holds Tryz.pinned (OpenSpec.upto cursorSameSpec)

/-- 'careenagelaw12.CursorWays', WHERE WHAT IT READS IS OF BULK AT MOST 1048576: true; the input reads as it did. -/
def cursorWaysUptoRow : OpenClaim := { program := "ytanbbnogdhnikaagreat", sum := "074b4c2810e77eb639f49fce80a6507099ee700091e1d374c2f1f494b0ad1b1e", func := "careenage/careenagelaw12.CursorWays", spec := "cursorWays", inPlace := ["internal/abi.NoEscape"], unfollowed := true, recurses := true, apart := false, narrowed := true }
def CursorWaysUptoSaid : Prop := cursorWaysUptoRow.holds Tryz.pinned (OpenSpec.upto cursorWaysSpec)

end Rows
end Go.Proofs.YtanbbnogdhnikaaGreat
