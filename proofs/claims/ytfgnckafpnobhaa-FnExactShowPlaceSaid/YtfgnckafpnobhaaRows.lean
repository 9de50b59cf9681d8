/-
  No cell of these rows narrows 'for every input' (looked for: loops, veiled, ifaces, maps, wideKeys, modest, calm, conditions, laid).
  DERIVED. THE GIVEN ROWS OF THIS SEAT. 13 by the template 'for every input the law returns true; each argument reads behind the call as it read before'; 0 by the template 'total and deterministic' (their statements: YtfgnckafpnobhaaTotals.lean).
  GIVEN WITH THE SEED: the statements are not yours to turn. If you find one false, say at which input.
  Laid BY PROGRAM, IN A SANDBOX (cutbox-rows.mjs): the forced cells as the released guide's own fill.sh prints them over the translation 192cb76396831c4a… (all of the seat's roots in one cut). By AI agents, Wed Nov 11 2026. No macro, syntax, notation, axiom, sorry.
-/
import Derived.Test.YtfgnckafpnobhaaChecked
import GoSem.Claim
import GoSem.ClaimJoined
import GoSem.ClaimMapViews
import Derived.JoinedTies
import Derived.KernelRfl
namespace Go.Proofs.Ytfgnckafpnobhaa
/- THE CELL 'sum', in the pinned program and in every row, IS THE sha256 OF THE DUMP (.gsa) THAT YtfgnckafpnobhaaProg.lean LOADS. Nothing in Lean hashes anything: it is a label: what it is worth is what the hold of that sum in a sandbox is worth. -/
noncomputable def Try.pinned : Pinned := { name := "ytfgnckafpnobhaa", sum := "192cb76396831c4a4b7ddbda4eadf5d6d28b1b5295bbe4293372eda8d05f10c0", checked := Try.checked }
namespace Rows
def none {H : Type} : Left H := { results := [], args := [] }

/-- 'laws.FnValidDisplay': WHATEVER THE INPUT: true; the input reads as it did. -/
def fnValidDisplaySpec : ChangeSpec := { name := "fnValidDisplay", fn := fun _ => fun
  | [d] => { results := [.lit (.bool true)], args := [d] }
  | _ => none }
def fnValidDisplayRow : OpenClaim := { program := "ytfgnckafpnobhaa", sum := "192cb76396831c4a4b7ddbda4eadf5d6d28b1b5295bbe4293372eda8d05f10c0", func := "loop.example/braille/laws.FnValidDisplay", spec := "fnValidDisplay", apart := false }
def FnValidDisplaySaid : Prop := fnValidDisplayRow.holds Try.pinned (OpenSpec.ofChange fnValidDisplaySpec)

/-- ITS FALSE NEIGHBOUR: 'it returns false'. Refute it at one input. -/
def fnValidDisplayWrong : ChangeSpec := { name := "fnValidDisplay", fn := fun _ => fun
  | [d] => { results := [.lit (.bool false)], args := [d] }
  | _ => none }
def FnValidDisplayWrongFalsely : Prop := fnValidDisplayRow.holds Try.pinned (OpenSpec.ofChange fnValidDisplayWrong)

/-- 'laws.FnWindowOf': WHATEVER THE INPUT: true; the input reads as it did. -/
def fnWindowOfSpec : ChangeSpec := { name := "fnWindowOf", fn := fun _ => fun
  | [d] => { results := [.lit (.bool true)], args := [d] }
  | _ => none }
def fnWindowOfRow : OpenClaim := { program := "ytfgnckafpnobhaa", sum := "192cb76396831c4a4b7ddbda4eadf5d6d28b1b5295bbe4293372eda8d05f10c0", func := "loop.example/braille/laws.FnWindowOf", spec := "fnWindowOf", apart := false }
def FnWindowOfSaid : Prop := fnWindowOfRow.holds Try.pinned (OpenSpec.ofChange fnWindowOfSpec)

/-- ITS FALSE NEIGHBOUR: 'it returns false'. Refute it at one input. -/
def fnWindowOfWrong : ChangeSpec := { name := "fnWindowOf", fn := fun _ => fun
  | [d] => { results := [.lit (.bool false)], args := [d] }
  | _ => none }
def FnWindowOfWrongFalsely : Prop := fnWindowOfRow.holds Try.pinned (OpenSpec.ofChange fnWindowOfWrong)

/-- 'laws.FnPanBy': WHATEVER THE INPUT: true; the input reads as it did. -/
def fnPanBySpec : ChangeSpec := { name := "fnPanBy", fn := fun _ => fun
  | [d] => { results := [.lit (.bool true)], args := [d] }
  | _ => none }
def fnPanByRow : OpenClaim := { program := "ytfgnckafpnobhaa", sum := "192cb76396831c4a4b7ddbda4eadf5d6d28b1b5295bbe4293372eda8d05f10c0", func := "loop.example/braille/laws.FnPanBy", spec := "fnPanBy", apart := false }
def FnPanBySaid : Prop := fnPanByRow.holds Try.pinned (OpenSpec.ofChange fnPanBySpec)

/-- ITS FALSE NEIGHBOUR: 'it returns false'. Refute it at one input. -/
def fnPanByWrong : ChangeSpec := { name := "fnPanBy", fn := fun _ => fun
  | [d] => { results := [.lit (.bool false)], args := [d] }
  | _ => none }
def FnPanByWrongFalsely : Prop := fnPanByRow.holds Try.pinned (OpenSpec.ofChange fnPanByWrong)

/-- 'laws.FnCellOfPlace': WHATEVER THE INPUT: true; the input reads as it did. -/
def fnCellOfPlaceSpec : ChangeSpec := { name := "fnCellOfPlace", fn := fun _ => fun
  | [d] => { results := [.lit (.bool true)], args := [d] }
  | _ => none }
def fnCellOfPlaceRow : OpenClaim := { program := "ytfgnckafpnobhaa", sum := "192cb76396831c4a4b7ddbda4eadf5d6d28b1b5295bbe4293372eda8d05f10c0", func := "loop.example/braille/laws.FnCellOfPlace", spec := "fnCellOfPlace", apart := false }
def FnCellOfPlaceSaid : Prop := fnCellOfPlaceRow.holds Try.pinned (OpenSpec.ofChange fnCellOfPlaceSpec)

/-- ITS FALSE NEIGHBOUR: 'it returns false'. Refute it at one input. -/
def fnCellOfPlaceWrong : ChangeSpec := { name := "fnCellOfPlace", fn := fun _ => fun
  | [d] => { results := [.lit (.bool false)], args := [d] }
  | _ => none }
def FnCellOfPlaceWrongFalsely : Prop := fnCellOfPlaceRow.holds Try.pinned (OpenSpec.ofChange fnCellOfPlaceWrong)

/-- 'laws.FnShowPlace': WHATEVER THE INPUT: true; the input reads as it did. -/
def fnShowPlaceSpec : ChangeSpec := { name := "fnShowPlace", fn := fun _ => fun
  | [d] => { results := [.lit (.bool true)], args := [d] }
  | _ => none }
def fnShowPlaceRow : OpenClaim := { program := "ytfgnckafpnobhaa", sum := "192cb76396831c4a4b7ddbda4eadf5d6d28b1b5295bbe4293372eda8d05f10c0", func := "loop.example/braille/laws.FnShowPlace", spec := "fnShowPlace", apart := false }
def FnShowPlaceSaid : Prop := fnShowPlaceRow.holds Try.pinned (OpenSpec.ofChange fnShowPlaceSpec)

/-- ITS FALSE NEIGHBOUR: 'it returns false'. Refute it at one input. -/
def fnShowPlaceWrong : ChangeSpec := { name := "fnShowPlace", fn := fun _ => fun
  | [d] => { results := [.lit (.bool false)], args := [d] }
  | _ => none }
def FnShowPlaceWrongFalsely : Prop := fnShowPlaceRow.holds Try.pinned (OpenSpec.ofChange fnShowPlaceWrong)

/-- 'laws.FnShowPlaceRoute': WHATEVER THE INPUT: true; the input reads as it did. -/
def fnShowPlaceRouteSpec : ChangeSpec := { name := "fnShowPlaceRoute", fn := fun _ => fun
  | [d] => { results := [.lit (.bool true)], args := [d] }
  | _ => none }
def fnShowPlaceRouteRow : OpenClaim := { program := "ytfgnckafpnobhaa", sum := "192cb76396831c4a4b7ddbda4eadf5d6d28b1b5295bbe4293372eda8d05f10c0", func := "loop.example/braille/laws.FnShowPlaceRoute", spec := "fnShowPlaceRoute", apart := false }
def FnShowPlaceRouteSaid : Prop := fnShowPlaceRouteRow.holds Try.pinned (OpenSpec.ofChange fnShowPlaceRouteSpec)

/-- ITS FALSE NEIGHBOUR: 'it returns false'. Refute it at one input. -/
def fnShowPlaceRouteWrong : ChangeSpec := { name := "fnShowPlaceRoute", fn := fun _ => fun
  | [d] => { results := [.lit (.bool false)], args := [d] }
  | _ => none }
def FnShowPlaceRouteWrongFalsely : Prop := fnShowPlaceRouteRow.holds Try.pinned (OpenSpec.ofChange fnShowPlaceRouteWrong)

/-- 'laws.FnRouteOf': WHATEVER THE INPUT: true; the input reads as it did. -/
def fnRouteOfSpec : ChangeSpec := { name := "fnRouteOf", fn := fun _ => fun
  | [d] => { results := [.lit (.bool true)], args := [d] }
  | _ => none }
def fnRouteOfRow : OpenClaim := { program := "ytfgnckafpnobhaa", sum := "192cb76396831c4a4b7ddbda4eadf5d6d28b1b5295bbe4293372eda8d05f10c0", func := "loop.example/braille/laws.FnRouteOf", spec := "fnRouteOf", apart := false }
def FnRouteOfSaid : Prop := fnRouteOfRow.holds Try.pinned (OpenSpec.ofChange fnRouteOfSpec)

/-- ITS FALSE NEIGHBOUR: 'it returns false'. Refute it at one input. -/
def fnRouteOfWrong : ChangeSpec := { name := "fnRouteOf", fn := fun _ => fun
  | [d] => { results := [.lit (.bool false)], args := [d] }
  | _ => none }
def FnRouteOfWrongFalsely : Prop := fnRouteOfRow.holds Try.pinned (OpenSpec.ofChange fnRouteOfWrong)

/-- 'laws.FnExactValidDisplay': WHATEVER THE INPUT: true; the input reads as it did. -/
def fnExactValidDisplaySpec : ChangeSpec := { name := "fnExactValidDisplay", fn := fun _ => fun
  | [d] => { results := [.lit (.bool true)], args := [d] }
  | _ => none }
def fnExactValidDisplayRow : OpenClaim := { program := "ytfgnckafpnobhaa", sum := "192cb76396831c4a4b7ddbda4eadf5d6d28b1b5295bbe4293372eda8d05f10c0", func := "loop.example/braille/laws.FnExactValidDisplay", spec := "fnExactValidDisplay", apart := false }
def FnExactValidDisplaySaid : Prop := fnExactValidDisplayRow.holds Try.pinned (OpenSpec.ofChange fnExactValidDisplaySpec)

/-- ITS FALSE NEIGHBOUR: 'it returns false'. Refute it at one input. -/
def fnExactValidDisplayWrong : ChangeSpec := { name := "fnExactValidDisplay", fn := fun _ => fun
  | [d] => { results := [.lit (.bool false)], args := [d] }
  | _ => none }
def FnExactValidDisplayWrongFalsely : Prop := fnExactValidDisplayRow.holds Try.pinned (OpenSpec.ofChange fnExactValidDisplayWrong)

/-- 'laws.FnExactWindowOf': WHATEVER THE INPUT: true; the input reads as it did. -/
def fnExactWindowOfSpec : ChangeSpec := { name := "fnExactWindowOf", fn := fun _ => fun
  | [d] => { results := [.lit (.bool true)], args := [d] }
  | _ => none }
def fnExactWindowOfRow : OpenClaim := { program := "ytfgnckafpnobhaa", sum := "192cb76396831c4a4b7ddbda4eadf5d6d28b1b5295bbe4293372eda8d05f10c0", func := "loop.example/braille/laws.FnExactWindowOf", spec := "fnExactWindowOf", apart := false }
def FnExactWindowOfSaid : Prop := fnExactWindowOfRow.holds Try.pinned (OpenSpec.ofChange fnExactWindowOfSpec)

/-- ITS FALSE NEIGHBOUR: 'it returns false'. Refute it at one input. -/
def fnExactWindowOfWrong : ChangeSpec := { name := "fnExactWindowOf", fn := fun _ => fun
  | [d] => { results := [.lit (.bool false)], args := [d] }
  | _ => none }
def FnExactWindowOfWrongFalsely : Prop := fnExactWindowOfRow.holds Try.pinned (OpenSpec.ofChange fnExactWindowOfWrong)

/-- 'laws.FnExactPanBy': WHATEVER THE INPUT: true; the input reads as it did. -/
def fnExactPanBySpec : ChangeSpec := { name := "fnExactPanBy", fn := fun _ => fun
  | [d1, d2] => { results := [.lit (.bool true)], args := [d1, d2] }
  | _ => none }
def fnExactPanByRow : OpenClaim := { program := "ytfgnckafpnobhaa", sum := "192cb76396831c4a4b7ddbda4eadf5d6d28b1b5295bbe4293372eda8d05f10c0", func := "loop.example/braille/laws.FnExactPanBy", spec := "fnExactPanBy", apart := false }
def FnExactPanBySaid : Prop := fnExactPanByRow.holds Try.pinned (OpenSpec.ofChange fnExactPanBySpec)

/-- ITS FALSE NEIGHBOUR: 'it returns false'. Refute it at one input. -/
def fnExactPanByWrong : ChangeSpec := { name := "fnExactPanBy", fn := fun _ => fun
  | [d1, d2] => { results := [.lit (.bool false)], args := [d1, d2] }
  | _ => none }
def FnExactPanByWrongFalsely : Prop := fnExactPanByRow.holds Try.pinned (OpenSpec.ofChange fnExactPanByWrong)

/-- 'laws.FnExactCellOfPlace': WHATEVER THE INPUT: true; the input reads as it did. -/
def fnExactCellOfPlaceSpec : ChangeSpec := { name := "fnExactCellOfPlace", fn := fun _ => fun
  | [d1, d2] => { results := [.lit (.bool true)], args := [d1, d2] }
  | _ => none }
def fnExactCellOfPlaceRow : OpenClaim := { program := "ytfgnckafpnobhaa", sum := "192cb76396831c4a4b7ddbda4eadf5d6d28b1b5295bbe4293372eda8d05f10c0", func := "loop.example/braille/laws.FnExactCellOfPlace", spec := "fnExactCellOfPlace", apart := false }
def FnExactCellOfPlaceSaid : Prop := fnExactCellOfPlaceRow.holds Try.pinned (OpenSpec.ofChange fnExactCellOfPlaceSpec)

/-- ITS FALSE NEIGHBOUR: 'it returns false'. Refute it at one input. -/
def fnExactCellOfPlaceWrong : ChangeSpec := { name := "fnExactCellOfPlace", fn := fun _ => fun
  | [d1, d2] => { results := [.lit (.bool false)], args := [d1, d2] }
  | _ => none }
def FnExactCellOfPlaceWrongFalsely : Prop := fnExactCellOfPlaceRow.holds Try.pinned (OpenSpec.ofChange fnExactCellOfPlaceWrong)

/-- 'laws.FnExactShowPlace': WHATEVER THE INPUT: true; the input reads as it did. -/
def fnExactShowPlaceSpec : ChangeSpec := { name := "fnExactShowPlace", fn := fun _ => fun
  | [d1, d2] => { results := [.lit (.bool true)], args := [d1, d2] }
  | _ => none }
def fnExactShowPlaceRow : OpenClaim := { program := "ytfgnckafpnobhaa", sum := "192cb76396831c4a4b7ddbda4eadf5d6d28b1b5295bbe4293372eda8d05f10c0", func := "loop.example/braille/laws.FnExactShowPlace", spec := "fnExactShowPlace", apart := false }
def FnExactShowPlaceSaid : Prop := fnExactShowPlaceRow.holds Try.pinned (OpenSpec.ofChange fnExactShowPlaceSpec)

/-- ITS FALSE NEIGHBOUR: 'it returns false'. Refute it at one input. -/
def fnExactShowPlaceWrong : ChangeSpec := { name := "fnExactShowPlace", fn := fun _ => fun
  | [d1, d2] => { results := [.lit (.bool false)], args := [d1, d2] }
  | _ => none }
def FnExactShowPlaceWrongFalsely : Prop := fnExactShowPlaceRow.holds Try.pinned (OpenSpec.ofChange fnExactShowPlaceWrong)

/-- 'laws.FnExactRouteOf': WHATEVER THE INPUT: true; the input reads as it did. -/
def fnExactRouteOfSpec : ChangeSpec := { name := "fnExactRouteOf", fn := fun _ => fun
  | [d1, d2] => { results := [.lit (.bool true)], args := [d1, d2] }
  | _ => none }
def fnExactRouteOfRow : OpenClaim := { program := "ytfgnckafpnobhaa", sum := "192cb76396831c4a4b7ddbda4eadf5d6d28b1b5295bbe4293372eda8d05f10c0", func := "loop.example/braille/laws.FnExactRouteOf", spec := "fnExactRouteOf", apart := false }
def FnExactRouteOfSaid : Prop := fnExactRouteOfRow.holds Try.pinned (OpenSpec.ofChange fnExactRouteOfSpec)

/-- ITS FALSE NEIGHBOUR: 'it returns false'. Refute it at one input. -/
def fnExactRouteOfWrong : ChangeSpec := { name := "fnExactRouteOf", fn := fun _ => fun
  | [d1, d2] => { results := [.lit (.bool false)], args := [d1, d2] }
  | _ => none }
def FnExactRouteOfWrongFalsely : Prop := fnExactRouteOfRow.holds Try.pinned (OpenSpec.ofChange fnExactRouteOfWrong)

/- THE SECOND FORM. 'bulk': how many values and letters a reading holds, each counted each time it is reached (what is shared counts as often as it is met; a slice's spare places count too). A statement '..UptoSaid' is the law's where the arguments, and the package variables that the reading takes, are together of bulk at most 1048576: NARROWER than '..Said'. Prove '..Said' where nothing that the law and all that it calls make is longer than what came in: it says more and counts as full. Else prove '..UptoSaid'. A law counts once. -/
mutual
def uptoBulk {H : Type} : DataW H → Nat
  | .lit (.string bytes) => bytes.length + 1
  | .lit _ => 1
  | .nil => 1
  | .ptr d => uptoBulk d + 1
  | .slice elems spare => uptoBulkAll elems + uptoBulkAll spare + 1
  | .agg parts => uptoBulkAll parts + 1
  | .iface _ d => uptoBulk d + 1
  | .map entries => uptoBulkEntries entries + 1
  | .held _ => 1
def uptoBulkAll {H : Type} : List (DataW H) → Nat
  | [] => 0
  | d :: r => uptoBulk d + uptoBulkAll r
def uptoBulkEntries {H : Type} : List (Lit × DataW H) → Nat
  | [] => 0
  | x :: r => uptoBulkEntry x + uptoBulkEntries r
def uptoBulkEntry {H : Type} : Lit × DataW H → Nat
  | (.string bytes, d) => bytes.length + uptoBulk d + 1
  | (_, d) => uptoBulk d + 1
 end
def uptoSmall : (H : Type) → List (DataW H) → Bool := fun _ ds => decide (uptoBulkAll ds ≤ 1048576)
def OpenSpec.upto (s : _root_.Go.ChangeSpec) : _root_.Go.OpenSpec := { _root_.Go.OpenSpec.ofChange s with cond := some uptoSmall }

/-- 'laws.FnValidDisplay', WHERE WHAT IT READS IS OF BULK AT MOST 1048576: true; the input reads as it did. -/
def fnValidDisplayUptoRow : OpenClaim := { program := "ytfgnckafpnobhaa", sum := "192cb76396831c4a4b7ddbda4eadf5d6d28b1b5295bbe4293372eda8d05f10c0", func := "loop.example/braille/laws.FnValidDisplay", spec := "fnValidDisplay", apart := false, narrowed := true }
def FnValidDisplayUptoSaid : Prop := fnValidDisplayUptoRow.holds Try.pinned (OpenSpec.upto fnValidDisplaySpec)

/-- 'laws.FnWindowOf', WHERE WHAT IT READS IS OF BULK AT MOST 1048576: true; the input reads as it did. -/
def fnWindowOfUptoRow : OpenClaim := { program := "ytfgnckafpnobhaa", sum := "192cb76396831c4a4b7ddbda4eadf5d6d28b1b5295bbe4293372eda8d05f10c0", func := "loop.example/braille/laws.FnWindowOf", spec := "fnWindowOf", apart := false, narrowed := true }
def FnWindowOfUptoSaid : Prop := fnWindowOfUptoRow.holds Try.pinned (OpenSpec.upto fnWindowOfSpec)

/-- 'laws.FnPanBy', WHERE WHAT IT READS IS OF BULK AT MOST 1048576: true; the input reads as it did. -/
def fnPanByUptoRow : OpenClaim := { program := "ytfgnckafpnobhaa", sum := "192cb76396831c4a4b7ddbda4eadf5d6d28b1b5295bbe4293372eda8d05f10c0", func := "loop.example/braille/laws.FnPanBy", spec := "fnPanBy", apart := false, narrowed := true }
def FnPanByUptoSaid : Prop := fnPanByUptoRow.holds Try.pinned (OpenSpec.upto fnPanBySpec)

/-- 'laws.FnCellOfPlace', WHERE WHAT IT READS IS OF BULK AT MOST 1048576: true; the input reads as it did. -/
def fnCellOfPlaceUptoRow : OpenClaim := { program := "ytfgnckafpnobhaa", sum := "192cb76396831c4a4b7ddbda4eadf5d6d28b1b5295bbe4293372eda8d05f10c0", func := "loop.example/braille/laws.FnCellOfPlace", spec := "fnCellOfPlace", apart := false, narrowed := true }
def FnCellOfPlaceUptoSaid : Prop := fnCellOfPlaceUptoRow.holds Try.pinned (OpenSpec.upto fnCellOfPlaceSpec)

/-- 'laws.FnShowPlace', WHERE WHAT IT READS IS OF BULK AT MOST 1048576: true; the input reads as it did. -/
def fnShowPlaceUptoRow : OpenClaim := { program := "ytfgnckafpnobhaa", sum := "192cb76396831c4a4b7ddbda4eadf5d6d28b1b5295bbe4293372eda8d05f10c0", func := "loop.example/braille/laws.FnShowPlace", spec := "fnShowPlace", apart := false, narrowed := true }
def FnShowPlaceUptoSaid : Prop := fnShowPlaceUptoRow.holds Try.pinned (OpenSpec.upto fnShowPlaceSpec)

/-- 'laws.FnShowPlaceRoute', WHERE WHAT IT READS IS OF BULK AT MOST 1048576: true; the input reads as it did. -/
def fnShowPlaceRouteUptoRow : OpenClaim := { program := "ytfgnckafpnobhaa", sum := "192cb76396831c4a4b7ddbda4eadf5d6d28b1b5295bbe4293372eda8d05f10c0", func := "loop.example/braille/laws.FnShowPlaceRoute", spec := "fnShowPlaceRoute", apart := false, narrowed := true }
def FnShowPlaceRouteUptoSaid : Prop := fnShowPlaceRouteUptoRow.holds Try.pinned (OpenSpec.upto fnShowPlaceRouteSpec)

/-- 'laws.FnRouteOf', WHERE WHAT IT READS IS OF BULK AT MOST 1048576: true; the input reads as it did. -/
def fnRouteOfUptoRow : OpenClaim := { program := "ytfgnckafpnobhaa", sum := "192cb76396831c4a4b7ddbda4eadf5d6d28b1b5295bbe4293372eda8d05f10c0", func := "loop.example/braille/laws.FnRouteOf", spec := "fnRouteOf", apart := false, narrowed := true }
def FnRouteOfUptoSaid : Prop := fnRouteOfUptoRow.holds Try.pinned (OpenSpec.upto fnRouteOfSpec)

/-- 'laws.FnExactValidDisplay', WHERE WHAT IT READS IS OF BULK AT MOST 1048576: true; the input reads as it did. -/
def fnExactValidDisplayUptoRow : OpenClaim := { program := "ytfgnckafpnobhaa", sum := "192cb76396831c4a4b7ddbda4eadf5d6d28b1b5295bbe4293372eda8d05f10c0", func := "loop.example/braille/laws.FnExactValidDisplay", spec := "fnExactValidDisplay", apart := false, narrowed := true }
def FnExactValidDisplayUptoSaid : Prop := fnExactValidDisplayUptoRow.holds Try.pinned (OpenSpec.upto fnExactValidDisplaySpec)

/-- 'laws.FnExactWindowOf', WHERE WHAT IT READS IS OF BULK AT MOST 1048576: true; the input reads as it did. -/
def fnExactWindowOfUptoRow : OpenClaim := { program := "ytfgnckafpnobhaa", sum := "192cb76396831c4a4b7ddbda4eadf5d6d28b1b5295bbe4293372eda8d05f10c0", func := "loop.example/braille/laws.FnExactWindowOf", spec := "fnExactWindowOf", apart := false, narrowed := true }
def FnExactWindowOfUptoSaid : Prop := fnExactWindowOfUptoRow.holds Try.pinned (OpenSpec.upto fnExactWindowOfSpec)

/-- 'laws.FnExactPanBy', WHERE WHAT IT READS IS OF BULK AT MOST 1048576: true; the input reads as it did. -/
def fnExactPanByUptoRow : OpenClaim := { program := "ytfgnckafpnobhaa", sum := "192cb76396831c4a4b7ddbda4eadf5d6d28b1b5295bbe4293372eda8d05f10c0", func := "loop.example/braille/laws.FnExactPanBy", spec := "fnExactPanBy", apart := false, narrowed := true }
def FnExactPanByUptoSaid : Prop := fnExactPanByUptoRow.holds Try.pinned (OpenSpec.upto fnExactPanBySpec)

/-- 'laws.FnExactCellOfPlace', WHERE WHAT IT READS IS OF BULK AT MOST 1048576: true; the input reads as it did. -/
def fnExactCellOfPlaceUptoRow : OpenClaim := { program := "ytfgnckafpnobhaa", sum := "192cb76396831c4a4b7ddbda4eadf5d6d28b1b5295bbe4293372eda8d05f10c0", func := "loop.example/braille/laws.FnExactCellOfPlace", spec := "fnExactCellOfPlace", apart := false, narrowed := true }
def FnExactCellOfPlaceUptoSaid : Prop := fnExactCellOfPlaceUptoRow.holds Try.pinned (OpenSpec.upto fnExactCellOfPlaceSpec)

/-- 'laws.FnExactShowPlace', WHERE WHAT IT READS IS OF BULK AT MOST 1048576: true; the input reads as it did. -/
def fnExactShowPlaceUptoRow : OpenClaim := { program := "ytfgnckafpnobhaa", sum := "192cb76396831c4a4b7ddbda4eadf5d6d28b1b5295bbe4293372eda8d05f10c0", func := "loop.example/braille/laws.FnExactShowPlace", spec := "fnExactShowPlace", apart := false, narrowed := true }
def FnExactShowPlaceUptoSaid : Prop := fnExactShowPlaceUptoRow.holds Try.pinned (OpenSpec.upto fnExactShowPlaceSpec)

/-- 'laws.FnExactRouteOf', WHERE WHAT IT READS IS OF BULK AT MOST 1048576: true; the input reads as it did. -/
def fnExactRouteOfUptoRow : OpenClaim := { program := "ytfgnckafpnobhaa", sum := "192cb76396831c4a4b7ddbda4eadf5d6d28b1b5295bbe4293372eda8d05f10c0", func := "loop.example/braille/laws.FnExactRouteOf", spec := "fnExactRouteOf", apart := false, narrowed := true }
def FnExactRouteOfUptoSaid : Prop := fnExactRouteOfUptoRow.holds Try.pinned (OpenSpec.upto fnExactRouteOfSpec)

end Rows
end Go.Proofs.Ytfgnckafpnobhaa
