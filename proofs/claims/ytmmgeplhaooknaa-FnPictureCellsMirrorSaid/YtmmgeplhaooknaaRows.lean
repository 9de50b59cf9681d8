/-
  No cell of these rows narrows 'for every input' (looked for: loops, veiled, ifaces, maps, wideKeys, modest, calm, conditions, laid).
  DERIVED. THE GIVEN ROWS OF THIS SEAT. 15 by the template 'for every input the law returns true; each argument reads behind the call as it read before'; 0 by the template 'total and deterministic' (their statements: YtmmgeplhaooknaaTotals.lean).
  GIVEN WITH THE SEED: the statements are not yours to turn. If you find one false, say at which input.
  Laid BY PROGRAM, IN A SANDBOX (cutbox-rows.mjs): the forced cells as the released guide's own fill.sh prints them over the translation 151373ccc756ccb9… (all of the seat's roots in one cut). By AI agents, Wed Nov 11 2026. No macro, syntax, notation, axiom, sorry.
-/
import Derived.Test.YtmmgeplhaooknaaChecked
import GoSem.Claim
import GoSem.ClaimJoined
import GoSem.ClaimMapViews
import Derived.JoinedTies
import Derived.KernelRfl
namespace Go.Proofs.Ytmmgeplhaooknaa
/- THE CELL 'sum', in the pinned program and in every row, IS THE sha256 OF THE DUMP (.gsa) THAT YtmmgeplhaooknaaProg.lean LOADS. Nothing in Lean hashes anything: it is a label: what it is worth is what the hold of that sum in a sandbox is worth. -/
noncomputable def Try.pinned : Pinned := { name := "ytmmgeplhaooknaa", sum := "151373ccc756ccb9df701e0a173f7c0a6b24504d93d1fce02b61902c62a3ba8a", checked := Try.checked }
namespace Rows
def none {H : Type} : Left H := { results := [], args := [] }

/-- 'laws.FnValidPicture': WHATEVER THE INPUT: true; the input reads as it did. -/
def fnValidPictureSpec : ChangeSpec := { name := "fnValidPicture", fn := fun _ => fun
  | [d] => { results := [.lit (.bool true)], args := [d] }
  | _ => none }
def fnValidPictureRow : OpenClaim := { program := "ytmmgeplhaooknaa", sum := "151373ccc756ccb9df701e0a173f7c0a6b24504d93d1fce02b61902c62a3ba8a", func := "loop.example/braille/laws.FnValidPicture", spec := "fnValidPicture", apart := false }
def FnValidPictureSaid : Prop := fnValidPictureRow.holds Try.pinned (OpenSpec.ofChange fnValidPictureSpec)

/-- ITS FALSE NEIGHBOUR: 'it returns false'. Refute it at one input. -/
def fnValidPictureWrong : ChangeSpec := { name := "fnValidPicture", fn := fun _ => fun
  | [d] => { results := [.lit (.bool false)], args := [d] }
  | _ => none }
def FnValidPictureWrongFalsely : Prop := fnValidPictureRow.holds Try.pinned (OpenSpec.ofChange fnValidPictureWrong)

/-- 'laws.FnPictureCells': WHATEVER THE INPUT: true; the input reads as it did. -/
def fnPictureCellsSpec : ChangeSpec := { name := "fnPictureCells", fn := fun _ => fun
  | [d] => { results := [.lit (.bool true)], args := [d] }
  | _ => none }
def fnPictureCellsRow : OpenClaim := { program := "ytmmgeplhaooknaa", sum := "151373ccc756ccb9df701e0a173f7c0a6b24504d93d1fce02b61902c62a3ba8a", func := "loop.example/braille/laws.FnPictureCells", spec := "fnPictureCells", apart := false }
def FnPictureCellsSaid : Prop := fnPictureCellsRow.holds Try.pinned (OpenSpec.ofChange fnPictureCellsSpec)

/-- ITS FALSE NEIGHBOUR: 'it returns false'. Refute it at one input. -/
def fnPictureCellsWrong : ChangeSpec := { name := "fnPictureCells", fn := fun _ => fun
  | [d] => { results := [.lit (.bool false)], args := [d] }
  | _ => none }
def FnPictureCellsWrongFalsely : Prop := fnPictureCellsRow.holds Try.pinned (OpenSpec.ofChange fnPictureCellsWrong)

/-- 'laws.FnPictureCellsDots': WHATEVER THE INPUT: true; the input reads as it did. -/
def fnPictureCellsDotsSpec : ChangeSpec := { name := "fnPictureCellsDots", fn := fun _ => fun
  | [d] => { results := [.lit (.bool true)], args := [d] }
  | _ => none }
def fnPictureCellsDotsRow : OpenClaim := { program := "ytmmgeplhaooknaa", sum := "151373ccc756ccb9df701e0a173f7c0a6b24504d93d1fce02b61902c62a3ba8a", func := "loop.example/braille/laws.FnPictureCellsDots", spec := "fnPictureCellsDots", apart := false }
def FnPictureCellsDotsSaid : Prop := fnPictureCellsDotsRow.holds Try.pinned (OpenSpec.ofChange fnPictureCellsDotsSpec)

/-- ITS FALSE NEIGHBOUR: 'it returns false'. Refute it at one input. -/
def fnPictureCellsDotsWrong : ChangeSpec := { name := "fnPictureCellsDots", fn := fun _ => fun
  | [d] => { results := [.lit (.bool false)], args := [d] }
  | _ => none }
def FnPictureCellsDotsWrongFalsely : Prop := fnPictureCellsDotsRow.holds Try.pinned (OpenSpec.ofChange fnPictureCellsDotsWrong)

/-- 'laws.FnPictureCellsMirror': WHATEVER THE INPUT: true; the input reads as it did. -/
def fnPictureCellsMirrorSpec : ChangeSpec := { name := "fnPictureCellsMirror", fn := fun _ => fun
  | [d] => { results := [.lit (.bool true)], args := [d] }
  | _ => none }
def fnPictureCellsMirrorRow : OpenClaim := { program := "ytmmgeplhaooknaa", sum := "151373ccc756ccb9df701e0a173f7c0a6b24504d93d1fce02b61902c62a3ba8a", func := "loop.example/braille/laws.FnPictureCellsMirror", spec := "fnPictureCellsMirror", apart := false }
def FnPictureCellsMirrorSaid : Prop := fnPictureCellsMirrorRow.holds Try.pinned (OpenSpec.ofChange fnPictureCellsMirrorSpec)

/-- ITS FALSE NEIGHBOUR: 'it returns false'. Refute it at one input. -/
def fnPictureCellsMirrorWrong : ChangeSpec := { name := "fnPictureCellsMirror", fn := fun _ => fun
  | [d] => { results := [.lit (.bool false)], args := [d] }
  | _ => none }
def FnPictureCellsMirrorWrongFalsely : Prop := fnPictureCellsMirrorRow.holds Try.pinned (OpenSpec.ofChange fnPictureCellsMirrorWrong)

/-- 'laws.FnCellsPicture': WHATEVER THE INPUT: true; the input reads as it did. -/
def fnCellsPictureSpec : ChangeSpec := { name := "fnCellsPicture", fn := fun _ => fun
  | [d] => { results := [.lit (.bool true)], args := [d] }
  | _ => none }
def fnCellsPictureRow : OpenClaim := { program := "ytmmgeplhaooknaa", sum := "151373ccc756ccb9df701e0a173f7c0a6b24504d93d1fce02b61902c62a3ba8a", func := "loop.example/braille/laws.FnCellsPicture", spec := "fnCellsPicture", apart := false }
def FnCellsPictureSaid : Prop := fnCellsPictureRow.holds Try.pinned (OpenSpec.ofChange fnCellsPictureSpec)

/-- ITS FALSE NEIGHBOUR: 'it returns false'. Refute it at one input. -/
def fnCellsPictureWrong : ChangeSpec := { name := "fnCellsPicture", fn := fun _ => fun
  | [d] => { results := [.lit (.bool false)], args := [d] }
  | _ => none }
def FnCellsPictureWrongFalsely : Prop := fnCellsPictureRow.holds Try.pinned (OpenSpec.ofChange fnCellsPictureWrong)

/-- 'laws.FnShrink': WHATEVER THE INPUT: true; the input reads as it did. -/
def fnShrinkSpec : ChangeSpec := { name := "fnShrink", fn := fun _ => fun
  | [d] => { results := [.lit (.bool true)], args := [d] }
  | _ => none }
def fnShrinkRow : OpenClaim := { program := "ytmmgeplhaooknaa", sum := "151373ccc756ccb9df701e0a173f7c0a6b24504d93d1fce02b61902c62a3ba8a", func := "loop.example/braille/laws.FnShrink", spec := "fnShrink", apart := false }
def FnShrinkSaid : Prop := fnShrinkRow.holds Try.pinned (OpenSpec.ofChange fnShrinkSpec)

/-- ITS FALSE NEIGHBOUR: 'it returns false'. Refute it at one input. -/
def fnShrinkWrong : ChangeSpec := { name := "fnShrink", fn := fun _ => fun
  | [d] => { results := [.lit (.bool false)], args := [d] }
  | _ => none }
def FnShrinkWrongFalsely : Prop := fnShrinkRow.holds Try.pinned (OpenSpec.ofChange fnShrinkWrong)

/-- 'laws.FnShrinkAll': WHATEVER THE INPUT: true; the input reads as it did. -/
def fnShrinkAllSpec : ChangeSpec := { name := "fnShrinkAll", fn := fun _ => fun
  | [d] => { results := [.lit (.bool true)], args := [d] }
  | _ => none }
def fnShrinkAllRow : OpenClaim := { program := "ytmmgeplhaooknaa", sum := "151373ccc756ccb9df701e0a173f7c0a6b24504d93d1fce02b61902c62a3ba8a", func := "loop.example/braille/laws.FnShrinkAll", spec := "fnShrinkAll", apart := false }
def FnShrinkAllSaid : Prop := fnShrinkAllRow.holds Try.pinned (OpenSpec.ofChange fnShrinkAllSpec)

/-- ITS FALSE NEIGHBOUR: 'it returns false'. Refute it at one input. -/
def fnShrinkAllWrong : ChangeSpec := { name := "fnShrinkAll", fn := fun _ => fun
  | [d] => { results := [.lit (.bool false)], args := [d] }
  | _ => none }
def FnShrinkAllWrongFalsely : Prop := fnShrinkAllRow.holds Try.pinned (OpenSpec.ofChange fnShrinkAllWrong)

/-- 'laws.FnShrinkInvert': WHATEVER THE INPUT: true; the input reads as it did. -/
def fnShrinkInvertSpec : ChangeSpec := { name := "fnShrinkInvert", fn := fun _ => fun
  | [d] => { results := [.lit (.bool true)], args := [d] }
  | _ => none }
def fnShrinkInvertRow : OpenClaim := { program := "ytmmgeplhaooknaa", sum := "151373ccc756ccb9df701e0a173f7c0a6b24504d93d1fce02b61902c62a3ba8a", func := "loop.example/braille/laws.FnShrinkInvert", spec := "fnShrinkInvert", apart := false }
def FnShrinkInvertSaid : Prop := fnShrinkInvertRow.holds Try.pinned (OpenSpec.ofChange fnShrinkInvertSpec)

/-- ITS FALSE NEIGHBOUR: 'it returns false'. Refute it at one input. -/
def fnShrinkInvertWrong : ChangeSpec := { name := "fnShrinkInvert", fn := fun _ => fun
  | [d] => { results := [.lit (.bool false)], args := [d] }
  | _ => none }
def FnShrinkInvertWrongFalsely : Prop := fnShrinkInvertRow.holds Try.pinned (OpenSpec.ofChange fnShrinkInvertWrong)

/-- 'laws.FnInvert': WHATEVER THE INPUT: true; the input reads as it did. -/
def fnInvertSpec : ChangeSpec := { name := "fnInvert", fn := fun _ => fun
  | [d] => { results := [.lit (.bool true)], args := [d] }
  | _ => none }
def fnInvertRow : OpenClaim := { program := "ytmmgeplhaooknaa", sum := "151373ccc756ccb9df701e0a173f7c0a6b24504d93d1fce02b61902c62a3ba8a", func := "loop.example/braille/laws.FnInvert", spec := "fnInvert", apart := false }
def FnInvertSaid : Prop := fnInvertRow.holds Try.pinned (OpenSpec.ofChange fnInvertSpec)

/-- ITS FALSE NEIGHBOUR: 'it returns false'. Refute it at one input. -/
def fnInvertWrong : ChangeSpec := { name := "fnInvert", fn := fun _ => fun
  | [d] => { results := [.lit (.bool false)], args := [d] }
  | _ => none }
def FnInvertWrongFalsely : Prop := fnInvertRow.holds Try.pinned (OpenSpec.ofChange fnInvertWrong)

/-- 'laws.FnPictureCellsInvert': WHATEVER THE INPUT: true; the input reads as it did. -/
def fnPictureCellsInvertSpec : ChangeSpec := { name := "fnPictureCellsInvert", fn := fun _ => fun
  | [d] => { results := [.lit (.bool true)], args := [d] }
  | _ => none }
def fnPictureCellsInvertRow : OpenClaim := { program := "ytmmgeplhaooknaa", sum := "151373ccc756ccb9df701e0a173f7c0a6b24504d93d1fce02b61902c62a3ba8a", func := "loop.example/braille/laws.FnPictureCellsInvert", spec := "fnPictureCellsInvert", apart := false }
def FnPictureCellsInvertSaid : Prop := fnPictureCellsInvertRow.holds Try.pinned (OpenSpec.ofChange fnPictureCellsInvertSpec)

/-- ITS FALSE NEIGHBOUR: 'it returns false'. Refute it at one input. -/
def fnPictureCellsInvertWrong : ChangeSpec := { name := "fnPictureCellsInvert", fn := fun _ => fun
  | [d] => { results := [.lit (.bool false)], args := [d] }
  | _ => none }
def FnPictureCellsInvertWrongFalsely : Prop := fnPictureCellsInvertRow.holds Try.pinned (OpenSpec.ofChange fnPictureCellsInvertWrong)

/-- 'laws.FnExactValidPicture': WHATEVER THE INPUT: true; the input reads as it did. -/
def fnExactValidPictureSpec : ChangeSpec := { name := "fnExactValidPicture", fn := fun _ => fun
  | [d] => { results := [.lit (.bool true)], args := [d] }
  | _ => none }
def fnExactValidPictureRow : OpenClaim := { program := "ytmmgeplhaooknaa", sum := "151373ccc756ccb9df701e0a173f7c0a6b24504d93d1fce02b61902c62a3ba8a", func := "loop.example/braille/laws.FnExactValidPicture", spec := "fnExactValidPicture", apart := false }
def FnExactValidPictureSaid : Prop := fnExactValidPictureRow.holds Try.pinned (OpenSpec.ofChange fnExactValidPictureSpec)

/-- ITS FALSE NEIGHBOUR: 'it returns false'. Refute it at one input. -/
def fnExactValidPictureWrong : ChangeSpec := { name := "fnExactValidPicture", fn := fun _ => fun
  | [d] => { results := [.lit (.bool false)], args := [d] }
  | _ => none }
def FnExactValidPictureWrongFalsely : Prop := fnExactValidPictureRow.holds Try.pinned (OpenSpec.ofChange fnExactValidPictureWrong)

/-- 'laws.FnExactPictureCells': WHATEVER THE INPUT: true; the input reads as it did. -/
def fnExactPictureCellsSpec : ChangeSpec := { name := "fnExactPictureCells", fn := fun _ => fun
  | [d] => { results := [.lit (.bool true)], args := [d] }
  | _ => none }
def fnExactPictureCellsRow : OpenClaim := { program := "ytmmgeplhaooknaa", sum := "151373ccc756ccb9df701e0a173f7c0a6b24504d93d1fce02b61902c62a3ba8a", func := "loop.example/braille/laws.FnExactPictureCells", spec := "fnExactPictureCells", apart := false }
def FnExactPictureCellsSaid : Prop := fnExactPictureCellsRow.holds Try.pinned (OpenSpec.ofChange fnExactPictureCellsSpec)

/-- ITS FALSE NEIGHBOUR: 'it returns false'. Refute it at one input. -/
def fnExactPictureCellsWrong : ChangeSpec := { name := "fnExactPictureCells", fn := fun _ => fun
  | [d] => { results := [.lit (.bool false)], args := [d] }
  | _ => none }
def FnExactPictureCellsWrongFalsely : Prop := fnExactPictureCellsRow.holds Try.pinned (OpenSpec.ofChange fnExactPictureCellsWrong)

/-- 'laws.FnExactCellsPicture': WHATEVER THE INPUT: true; the input reads as it did. -/
def fnExactCellsPictureSpec : ChangeSpec := { name := "fnExactCellsPicture", fn := fun _ => fun
  | [d] => { results := [.lit (.bool true)], args := [d] }
  | _ => none }
def fnExactCellsPictureRow : OpenClaim := { program := "ytmmgeplhaooknaa", sum := "151373ccc756ccb9df701e0a173f7c0a6b24504d93d1fce02b61902c62a3ba8a", func := "loop.example/braille/laws.FnExactCellsPicture", spec := "fnExactCellsPicture", apart := false }
def FnExactCellsPictureSaid : Prop := fnExactCellsPictureRow.holds Try.pinned (OpenSpec.ofChange fnExactCellsPictureSpec)

/-- ITS FALSE NEIGHBOUR: 'it returns false'. Refute it at one input. -/
def fnExactCellsPictureWrong : ChangeSpec := { name := "fnExactCellsPicture", fn := fun _ => fun
  | [d] => { results := [.lit (.bool false)], args := [d] }
  | _ => none }
def FnExactCellsPictureWrongFalsely : Prop := fnExactCellsPictureRow.holds Try.pinned (OpenSpec.ofChange fnExactCellsPictureWrong)

/-- 'laws.FnExactShrink': WHATEVER THE INPUT: true; the input reads as it did. -/
def fnExactShrinkSpec : ChangeSpec := { name := "fnExactShrink", fn := fun _ => fun
  | [d1, d2] => { results := [.lit (.bool true)], args := [d1, d2] }
  | _ => none }
def fnExactShrinkRow : OpenClaim := { program := "ytmmgeplhaooknaa", sum := "151373ccc756ccb9df701e0a173f7c0a6b24504d93d1fce02b61902c62a3ba8a", func := "loop.example/braille/laws.FnExactShrink", spec := "fnExactShrink", apart := false }
def FnExactShrinkSaid : Prop := fnExactShrinkRow.holds Try.pinned (OpenSpec.ofChange fnExactShrinkSpec)

/-- ITS FALSE NEIGHBOUR: 'it returns false'. Refute it at one input. -/
def fnExactShrinkWrong : ChangeSpec := { name := "fnExactShrink", fn := fun _ => fun
  | [d1, d2] => { results := [.lit (.bool false)], args := [d1, d2] }
  | _ => none }
def FnExactShrinkWrongFalsely : Prop := fnExactShrinkRow.holds Try.pinned (OpenSpec.ofChange fnExactShrinkWrong)

/-- 'laws.FnExactInvert': WHATEVER THE INPUT: true; the input reads as it did. -/
def fnExactInvertSpec : ChangeSpec := { name := "fnExactInvert", fn := fun _ => fun
  | [d] => { results := [.lit (.bool true)], args := [d] }
  | _ => none }
def fnExactInvertRow : OpenClaim := { program := "ytmmgeplhaooknaa", sum := "151373ccc756ccb9df701e0a173f7c0a6b24504d93d1fce02b61902c62a3ba8a", func := "loop.example/braille/laws.FnExactInvert", spec := "fnExactInvert", apart := false }
def FnExactInvertSaid : Prop := fnExactInvertRow.holds Try.pinned (OpenSpec.ofChange fnExactInvertSpec)

/-- ITS FALSE NEIGHBOUR: 'it returns false'. Refute it at one input. -/
def fnExactInvertWrong : ChangeSpec := { name := "fnExactInvert", fn := fun _ => fun
  | [d] => { results := [.lit (.bool false)], args := [d] }
  | _ => none }
def FnExactInvertWrongFalsely : Prop := fnExactInvertRow.holds Try.pinned (OpenSpec.ofChange fnExactInvertWrong)

/- THE SECOND FORM. 'bulk': how many values and letters a reading holds, each counted each time it is reached (what is shared counts as often as it is met; a slice's spare places count too). A statement '..UptoSaid' is the law's where the arguments, and the package variables that the reading takes, are together of bulk at most 1048576: NARROWER than '..Said'. Prove '..Said' where nothing that the law and all that it calls make is longer than what came in: it says more and counts as full. Else prove '..UptoSaid'. A law counts once. -/
mutual
def uptoBulk {H : Type} : DataW H → Nat
  | .lit (.string bytes) => bytes.length + 1
  | .lit _ => 1
  | .nil => 1
  | .ptr d => uptoBulk d + 1
  | .slice elems spare => uptoBulkAll elems + uptoBulkAll spare + 1
  | .agg parts => uptoBulkAll parts + 1
  | .iface _ d => uptoBulk d + 1
  | .map entries => uptoBulkEntries entries + 1
  | .held _ => 1
def uptoBulkAll {H : Type} : List (DataW H) → Nat
  | [] => 0
  | d :: r => uptoBulk d + uptoBulkAll r
def uptoBulkEntries {H : Type} : List (Lit × DataW H) → Nat
  | [] => 0
  | x :: r => uptoBulkEntry x + uptoBulkEntries r
def uptoBulkEntry {H : Type} : Lit × DataW H → Nat
  | (.string bytes, d) => bytes.length + uptoBulk d + 1
  | (_, d) => uptoBulk d + 1
 end
def uptoSmall : (H : Type) → List (DataW H) → Bool := fun _ ds => decide (uptoBulkAll ds ≤ 1048576)
def OpenSpec.upto (s : _root_.Go.ChangeSpec) : _root_.Go.OpenSpec := { _root_.Go.OpenSpec.ofChange s with cond := some uptoSmall }

/-- 'laws.FnValidPicture', WHERE WHAT IT READS IS OF BULK AT MOST 1048576: true; the input reads as it did. -/
def fnValidPictureUptoRow : OpenClaim := { program := "ytmmgeplhaooknaa", sum := "151373ccc756ccb9df701e0a173f7c0a6b24504d93d1fce02b61902c62a3ba8a", func := "loop.example/braille/laws.FnValidPicture", spec := "fnValidPicture", apart := false, narrowed := true }
def FnValidPictureUptoSaid : Prop := fnValidPictureUptoRow.holds Try.pinned (OpenSpec.upto fnValidPictureSpec)

/-- 'laws.FnPictureCells', WHERE WHAT IT READS IS OF BULK AT MOST 1048576: true; the input reads as it did. -/
def fnPictureCellsUptoRow : OpenClaim := { program := "ytmmgeplhaooknaa", sum := "151373ccc756ccb9df701e0a173f7c0a6b24504d93d1fce02b61902c62a3ba8a", func := "loop.example/braille/laws.FnPictureCells", spec := "fnPictureCells", apart := false, narrowed := true }
def FnPictureCellsUptoSaid : Prop := fnPictureCellsUptoRow.holds Try.pinned (OpenSpec.upto fnPictureCellsSpec)

/-- 'laws.FnPictureCellsDots', WHERE WHAT IT READS IS OF BULK AT MOST 1048576: true; the input reads as it did. -/
def fnPictureCellsDotsUptoRow : OpenClaim := { program := "ytmmgeplhaooknaa", sum := "151373ccc756ccb9df701e0a173f7c0a6b24504d93d1fce02b61902c62a3ba8a", func := "loop.example/braille/laws.FnPictureCellsDots", spec := "fnPictureCellsDots", apart := false, narrowed := true }
def FnPictureCellsDotsUptoSaid : Prop := fnPictureCellsDotsUptoRow.holds Try.pinned (OpenSpec.upto fnPictureCellsDotsSpec)

/-- 'laws.FnPictureCellsMirror', WHERE WHAT IT READS IS OF BULK AT MOST 1048576: true; the input reads as it did. -/
def fnPictureCellsMirrorUptoRow : OpenClaim := { program := "ytmmgeplhaooknaa", sum := "151373ccc756ccb9df701e0a173f7c0a6b24504d93d1fce02b61902c62a3ba8a", func := "loop.example/braille/laws.FnPictureCellsMirror", spec := "fnPictureCellsMirror", apart := false, narrowed := true }
def FnPictureCellsMirrorUptoSaid : Prop := fnPictureCellsMirrorUptoRow.holds Try.pinned (OpenSpec.upto fnPictureCellsMirrorSpec)

/-- 'laws.FnCellsPicture', WHERE WHAT IT READS IS OF BULK AT MOST 1048576: true; the input reads as it did. -/
def fnCellsPictureUptoRow : OpenClaim := { program := "ytmmgeplhaooknaa", sum := "151373ccc756ccb9df701e0a173f7c0a6b24504d93d1fce02b61902c62a3ba8a", func := "loop.example/braille/laws.FnCellsPicture", spec := "fnCellsPicture", apart := false, narrowed := true }
def FnCellsPictureUptoSaid : Prop := fnCellsPictureUptoRow.holds Try.pinned (OpenSpec.upto fnCellsPictureSpec)

/-- 'laws.FnShrink', WHERE WHAT IT READS IS OF BULK AT MOST 1048576: true; the input reads as it did. -/
def fnShrinkUptoRow : OpenClaim := { program := "ytmmgeplhaooknaa", sum := "151373ccc756ccb9df701e0a173f7c0a6b24504d93d1fce02b61902c62a3ba8a", func := "loop.example/braille/laws.FnShrink", spec := "fnShrink", apart := false, narrowed := true }
def FnShrinkUptoSaid : Prop := fnShrinkUptoRow.holds Try.pinned (OpenSpec.upto fnShrinkSpec)

/-- 'laws.FnShrinkAll', WHERE WHAT IT READS IS OF BULK AT MOST 1048576: true; the input reads as it did. -/
def fnShrinkAllUptoRow : OpenClaim := { program := "ytmmgeplhaooknaa", sum := "151373ccc756ccb9df701e0a173f7c0a6b24504d93d1fce02b61902c62a3ba8a", func := "loop.example/braille/laws.FnShrinkAll", spec := "fnShrinkAll", apart := false, narrowed := true }
def FnShrinkAllUptoSaid : Prop := fnShrinkAllUptoRow.holds Try.pinned (OpenSpec.upto fnShrinkAllSpec)

/-- 'laws.FnShrinkInvert', WHERE WHAT IT READS IS OF BULK AT MOST 1048576: true; the input reads as it did. -/
def fnShrinkInvertUptoRow : OpenClaim := { program := "ytmmgeplhaooknaa", sum := "151373ccc756ccb9df701e0a173f7c0a6b24504d93d1fce02b61902c62a3ba8a", func := "loop.example/braille/laws.FnShrinkInvert", spec := "fnShrinkInvert", apart := false, narrowed := true }
def FnShrinkInvertUptoSaid : Prop := fnShrinkInvertUptoRow.holds Try.pinned (OpenSpec.upto fnShrinkInvertSpec)

/-- 'laws.FnInvert', WHERE WHAT IT READS IS OF BULK AT MOST 1048576: true; the input reads as it did. -/
def fnInvertUptoRow : OpenClaim := { program := "ytmmgeplhaooknaa", sum := "151373ccc756ccb9df701e0a173f7c0a6b24504d93d1fce02b61902c62a3ba8a", func := "loop.example/braille/laws.FnInvert", spec := "fnInvert", apart := false, narrowed := true }
def FnInvertUptoSaid : Prop := fnInvertUptoRow.holds Try.pinned (OpenSpec.upto fnInvertSpec)

/-- 'laws.FnPictureCellsInvert', WHERE WHAT IT READS IS OF BULK AT MOST 1048576: true; the input reads as it did. -/
def fnPictureCellsInvertUptoRow : OpenClaim := { program := "ytmmgeplhaooknaa", sum := "151373ccc756ccb9df701e0a173f7c0a6b24504d93d1fce02b61902c62a3ba8a", func := "loop.example/braille/laws.FnPictureCellsInvert", spec := "fnPictureCellsInvert", apart := false, narrowed := true }
def FnPictureCellsInvertUptoSaid : Prop := fnPictureCellsInvertUptoRow.holds Try.pinned (OpenSpec.upto fnPictureCellsInvertSpec)

/-- 'laws.FnExactValidPicture', WHERE WHAT IT READS IS OF BULK AT MOST 1048576: true; the input reads as it did. -/
def fnExactValidPictureUptoRow : OpenClaim := { program := "ytmmgeplhaooknaa", sum := "151373ccc756ccb9df701e0a173f7c0a6b24504d93d1fce02b61902c62a3ba8a", func := "loop.example/braille/laws.FnExactValidPicture", spec := "fnExactValidPicture", apart := false, narrowed := true }
def FnExactValidPictureUptoSaid : Prop := fnExactValidPictureUptoRow.holds Try.pinned (OpenSpec.upto fnExactValidPictureSpec)

/-- 'laws.FnExactPictureCells', WHERE WHAT IT READS IS OF BULK AT MOST 1048576: true; the input reads as it did. -/
def fnExactPictureCellsUptoRow : OpenClaim := { program := "ytmmgeplhaooknaa", sum := "151373ccc756ccb9df701e0a173f7c0a6b24504d93d1fce02b61902c62a3ba8a", func := "loop.example/braille/laws.FnExactPictureCells", spec := "fnExactPictureCells", apart := false, narrowed := true }
def FnExactPictureCellsUptoSaid : Prop := fnExactPictureCellsUptoRow.holds Try.pinned (OpenSpec.upto fnExactPictureCellsSpec)

/-- 'laws.FnExactCellsPicture', WHERE WHAT IT READS IS OF BULK AT MOST 1048576: true; the input reads as it did. -/
def fnExactCellsPictureUptoRow : OpenClaim := { program := "ytmmgeplhaooknaa", sum := "151373ccc756ccb9df701e0a173f7c0a6b24504d93d1fce02b61902c62a3ba8a", func := "loop.example/braille/laws.FnExactCellsPicture", spec := "fnExactCellsPicture", apart := false, narrowed := true }
def FnExactCellsPictureUptoSaid : Prop := fnExactCellsPictureUptoRow.holds Try.pinned (OpenSpec.upto fnExactCellsPictureSpec)

/-- 'laws.FnExactShrink', WHERE WHAT IT READS IS OF BULK AT MOST 1048576: true; the input reads as it did. -/
def fnExactShrinkUptoRow : OpenClaim := { program := "ytmmgeplhaooknaa", sum := "151373ccc756ccb9df701e0a173f7c0a6b24504d93d1fce02b61902c62a3ba8a", func := "loop.example/braille/laws.FnExactShrink", spec := "fnExactShrink", apart := false, narrowed := true }
def FnExactShrinkUptoSaid : Prop := fnExactShrinkUptoRow.holds Try.pinned (OpenSpec.upto fnExactShrinkSpec)

/-- 'laws.FnExactInvert', WHERE WHAT IT READS IS OF BULK AT MOST 1048576: true; the input reads as it did. -/
def fnExactInvertUptoRow : OpenClaim := { program := "ytmmgeplhaooknaa", sum := "151373ccc756ccb9df701e0a173f7c0a6b24504d93d1fce02b61902c62a3ba8a", func := "loop.example/braille/laws.FnExactInvert", spec := "fnExactInvert", apart := false, narrowed := true }
def FnExactInvertUptoSaid : Prop := fnExactInvertUptoRow.holds Try.pinned (OpenSpec.upto fnExactInvertSpec)

end Rows
end Go.Proofs.Ytmmgeplhaooknaa
