/-
  No cell of these rows narrows 'for every input' (looked for: loops, veiled, ifaces, maps, wideKeys, modest, calm, conditions, laid).
  DERIVED. THE GIVEN ROWS OF THIS SEAT. 9 by the template 'for every input the law returns true; each argument reads behind the call as it read before'; 0 by the template 'total and deterministic' (their statements: YtdjgodemeaneeaaTotals.lean).
  GIVEN WITH THE SEED: the statements are not yours to turn. If you find one false, say at which input.
  Laid BY PROGRAM, IN A SANDBOX (cutbox-rows.mjs): the forced cells as the released guide's own fill.sh prints them over the translation 0c7f3f6a49adbd06… (all of the seat's roots in one cut). By AI agents, Wed Nov 11 2026. No macro, syntax, notation, axiom, sorry.
-/
import Derived.Test.YtdjgodemeaneeaaChecked
import GoSem.Claim
import GoSem.ClaimJoined
import GoSem.ClaimMapViews
import Derived.JoinedTies
import Derived.KernelRfl
namespace Go.Proofs.Ytdjgodemeaneeaa
/- THE CELL 'sum', in the pinned program and in every row, IS THE sha256 OF THE DUMP (.gsa) THAT YtdjgodemeaneeaaProg.lean LOADS. Nothing in Lean hashes anything: it is a label: what it is worth is what the hold of that sum in a sandbox is worth. -/
noncomputable def Try.pinned : Pinned := { name := "ytdjgodemeaneeaa", sum := "0c7f3f6a49adbd06facb552a2f543a81e9656c91206fc6e0ba433fbf91a911ca", checked := Try.checked }
namespace Rows
def none {H : Type} : Left H := { results := [], args := [] }

/-- 'laws.FnGreedyPieces': WHATEVER THE INPUT: true; the input reads as it did. -/
def fnGreedyPiecesSpec : ChangeSpec := { name := "fnGreedyPieces", fn := fun _ => fun
  | [d] => { results := [.lit (.bool true)], args := [d] }
  | _ => none }
def fnGreedyPiecesRow : OpenClaim := { program := "ytdjgodemeaneeaa", sum := "0c7f3f6a49adbd06facb552a2f543a81e9656c91206fc6e0ba433fbf91a911ca", func := "loop.example/braille/laws.FnGreedyPieces", spec := "fnGreedyPieces", apart := false }
def FnGreedyPiecesSaid : Prop := fnGreedyPiecesRow.holds Try.pinned (OpenSpec.ofChange fnGreedyPiecesSpec)

/-- ITS FALSE NEIGHBOUR: 'it returns false'. Refute it at one input. -/
def fnGreedyPiecesWrong : ChangeSpec := { name := "fnGreedyPieces", fn := fun _ => fun
  | [d] => { results := [.lit (.bool false)], args := [d] }
  | _ => none }
def FnGreedyPiecesWrongFalsely : Prop := fnGreedyPiecesRow.holds Try.pinned (OpenSpec.ofChange fnGreedyPiecesWrong)

/-- 'laws.FnGreedyPiecesLong': WHATEVER THE INPUT: true; the input reads as it did. -/
def fnGreedyPiecesLongSpec : ChangeSpec := { name := "fnGreedyPiecesLong", fn := fun _ => fun
  | [d] => { results := [.lit (.bool true)], args := [d] }
  | _ => none }
def fnGreedyPiecesLongRow : OpenClaim := { program := "ytdjgodemeaneeaa", sum := "0c7f3f6a49adbd06facb552a2f543a81e9656c91206fc6e0ba433fbf91a911ca", func := "loop.example/braille/laws.FnGreedyPiecesLong", spec := "fnGreedyPiecesLong", apart := false }
def FnGreedyPiecesLongSaid : Prop := fnGreedyPiecesLongRow.holds Try.pinned (OpenSpec.ofChange fnGreedyPiecesLongSpec)

/-- ITS FALSE NEIGHBOUR: 'it returns false'. Refute it at one input. -/
def fnGreedyPiecesLongWrong : ChangeSpec := { name := "fnGreedyPiecesLong", fn := fun _ => fun
  | [d] => { results := [.lit (.bool false)], args := [d] }
  | _ => none }
def FnGreedyPiecesLongWrongFalsely : Prop := fnGreedyPiecesLongRow.holds Try.pinned (OpenSpec.ofChange fnGreedyPiecesLongWrong)

/-- 'laws.FnExactWordsIn': WHATEVER THE INPUT: true; the input reads as it did. -/
def fnExactWordsInSpec : ChangeSpec := { name := "fnExactWordsIn", fn := fun _ => fun
  | [d] => { results := [.lit (.bool true)], args := [d] }
  | _ => none }
def fnExactWordsInRow : OpenClaim := { program := "ytdjgodemeaneeaa", sum := "0c7f3f6a49adbd06facb552a2f543a81e9656c91206fc6e0ba433fbf91a911ca", func := "loop.example/braille/laws.FnExactWordsIn", spec := "fnExactWordsIn", apart := false }
def FnExactWordsInSaid : Prop := fnExactWordsInRow.holds Try.pinned (OpenSpec.ofChange fnExactWordsInSpec)

/-- ITS FALSE NEIGHBOUR: 'it returns false'. Refute it at one input. -/
def fnExactWordsInWrong : ChangeSpec := { name := "fnExactWordsIn", fn := fun _ => fun
  | [d] => { results := [.lit (.bool false)], args := [d] }
  | _ => none }
def FnExactWordsInWrongFalsely : Prop := fnExactWordsInRow.holds Try.pinned (OpenSpec.ofChange fnExactWordsInWrong)

/-- 'laws.FnWordsIn': WHATEVER THE INPUT: true; the input reads as it did. -/
def fnWordsInSpec : ChangeSpec := { name := "fnWordsIn", fn := fun _ => fun
  | [d] => { results := [.lit (.bool true)], args := [d] }
  | _ => none }
def fnWordsInRow : OpenClaim := { program := "ytdjgodemeaneeaa", sum := "0c7f3f6a49adbd06facb552a2f543a81e9656c91206fc6e0ba433fbf91a911ca", func := "loop.example/braille/laws.FnWordsIn", spec := "fnWordsIn", apart := false }
def FnWordsInSaid : Prop := fnWordsInRow.holds Try.pinned (OpenSpec.ofChange fnWordsInSpec)

/-- ITS FALSE NEIGHBOUR: 'it returns false'. Refute it at one input. -/
def fnWordsInWrong : ChangeSpec := { name := "fnWordsIn", fn := fun _ => fun
  | [d] => { results := [.lit (.bool false)], args := [d] }
  | _ => none }
def FnWordsInWrongFalsely : Prop := fnWordsInRow.holds Try.pinned (OpenSpec.ofChange fnWordsInWrong)

/-- 'laws.FnWordsInWord': WHATEVER THE INPUT: true; the input reads as it did. -/
def fnWordsInWordSpec : ChangeSpec := { name := "fnWordsInWord", fn := fun _ => fun
  | [d] => { results := [.lit (.bool true)], args := [d] }
  | _ => none }
def fnWordsInWordRow : OpenClaim := { program := "ytdjgodemeaneeaa", sum := "0c7f3f6a49adbd06facb552a2f543a81e9656c91206fc6e0ba433fbf91a911ca", func := "loop.example/braille/laws.FnWordsInWord", spec := "fnWordsInWord", apart := false }
def FnWordsInWordSaid : Prop := fnWordsInWordRow.holds Try.pinned (OpenSpec.ofChange fnWordsInWordSpec)

/-- ITS FALSE NEIGHBOUR: 'it returns false'. Refute it at one input. -/
def fnWordsInWordWrong : ChangeSpec := { name := "fnWordsInWord", fn := fun _ => fun
  | [d] => { results := [.lit (.bool false)], args := [d] }
  | _ => none }
def FnWordsInWordWrongFalsely : Prop := fnWordsInWordRow.holds Try.pinned (OpenSpec.ofChange fnWordsInWordWrong)

/-- 'laws.FnIsUnique': WHATEVER THE INPUT: true; the input reads as it did. -/
def fnIsUniqueSpec : ChangeSpec := { name := "fnIsUnique", fn := fun _ => fun
  | [d] => { results := [.lit (.bool true)], args := [d] }
  | _ => none }
def fnIsUniqueRow : OpenClaim := { program := "ytdjgodemeaneeaa", sum := "0c7f3f6a49adbd06facb552a2f543a81e9656c91206fc6e0ba433fbf91a911ca", func := "loop.example/braille/laws.FnIsUnique", spec := "fnIsUnique", apart := false }
def FnIsUniqueSaid : Prop := fnIsUniqueRow.holds Try.pinned (OpenSpec.ofChange fnIsUniqueSpec)

/-- ITS FALSE NEIGHBOUR: 'it returns false'. Refute it at one input. -/
def fnIsUniqueWrong : ChangeSpec := { name := "fnIsUnique", fn := fun _ => fun
  | [d] => { results := [.lit (.bool false)], args := [d] }
  | _ => none }
def FnIsUniqueWrongFalsely : Prop := fnIsUniqueRow.holds Try.pinned (OpenSpec.ofChange fnIsUniqueWrong)

/-- 'laws.FnIsUniqueBack': WHATEVER THE INPUT: true; the input reads as it did. -/
def fnIsUniqueBackSpec : ChangeSpec := { name := "fnIsUniqueBack", fn := fun _ => fun
  | [d] => { results := [.lit (.bool true)], args := [d] }
  | _ => none }
def fnIsUniqueBackRow : OpenClaim := { program := "ytdjgodemeaneeaa", sum := "0c7f3f6a49adbd06facb552a2f543a81e9656c91206fc6e0ba433fbf91a911ca", func := "loop.example/braille/laws.FnIsUniqueBack", spec := "fnIsUniqueBack", apart := false }
def FnIsUniqueBackSaid : Prop := fnIsUniqueBackRow.holds Try.pinned (OpenSpec.ofChange fnIsUniqueBackSpec)

/-- ITS FALSE NEIGHBOUR: 'it returns false'. Refute it at one input. -/
def fnIsUniqueBackWrong : ChangeSpec := { name := "fnIsUniqueBack", fn := fun _ => fun
  | [d] => { results := [.lit (.bool false)], args := [d] }
  | _ => none }
def FnIsUniqueBackWrongFalsely : Prop := fnIsUniqueBackRow.holds Try.pinned (OpenSpec.ofChange fnIsUniqueBackWrong)

/-- 'laws.FnIsUniqueLess': WHATEVER THE INPUT: true; the input reads as it did. -/
def fnIsUniqueLessSpec : ChangeSpec := { name := "fnIsUniqueLess", fn := fun _ => fun
  | [d] => { results := [.lit (.bool true)], args := [d] }
  | _ => none }
def fnIsUniqueLessRow : OpenClaim := { program := "ytdjgodemeaneeaa", sum := "0c7f3f6a49adbd06facb552a2f543a81e9656c91206fc6e0ba433fbf91a911ca", func := "loop.example/braille/laws.FnIsUniqueLess", spec := "fnIsUniqueLess", apart := false }
def FnIsUniqueLessSaid : Prop := fnIsUniqueLessRow.holds Try.pinned (OpenSpec.ofChange fnIsUniqueLessSpec)

/-- ITS FALSE NEIGHBOUR: 'it returns false'. Refute it at one input. -/
def fnIsUniqueLessWrong : ChangeSpec := { name := "fnIsUniqueLess", fn := fun _ => fun
  | [d] => { results := [.lit (.bool false)], args := [d] }
  | _ => none }
def FnIsUniqueLessWrongFalsely : Prop := fnIsUniqueLessRow.holds Try.pinned (OpenSpec.ofChange fnIsUniqueLessWrong)

/-- 'laws.FnIsUniqueEven': WHATEVER THE INPUT: true; the input reads as it did. -/
def fnIsUniqueEvenSpec : ChangeSpec := { name := "fnIsUniqueEven", fn := fun _ => fun
  | [d] => { results := [.lit (.bool true)], args := [d] }
  | _ => none }
def fnIsUniqueEvenRow : OpenClaim := { program := "ytdjgodemeaneeaa", sum := "0c7f3f6a49adbd06facb552a2f543a81e9656c91206fc6e0ba433fbf91a911ca", func := "loop.example/braille/laws.FnIsUniqueEven", spec := "fnIsUniqueEven", apart := false }
def FnIsUniqueEvenSaid : Prop := fnIsUniqueEvenRow.holds Try.pinned (OpenSpec.ofChange fnIsUniqueEvenSpec)

/-- ITS FALSE NEIGHBOUR: 'it returns false'. Refute it at one input. -/
def fnIsUniqueEvenWrong : ChangeSpec := { name := "fnIsUniqueEven", fn := fun _ => fun
  | [d] => { results := [.lit (.bool false)], args := [d] }
  | _ => none }
def FnIsUniqueEvenWrongFalsely : Prop := fnIsUniqueEvenRow.holds Try.pinned (OpenSpec.ofChange fnIsUniqueEvenWrong)

/- THE SECOND FORM. 'bulk': how many values and letters a reading holds, each counted each time it is reached (what is shared counts as often as it is met; a slice's spare places count too). A statement '..UptoSaid' is the law's where the arguments, and the package variables that the reading takes, are together of bulk at most 1048576: NARROWER than '..Said'. Prove '..Said' where nothing that the law and all that it calls make is longer than what came in: it says more and counts as full. Else prove '..UptoSaid'. A law counts once. -/
mutual
def uptoBulk {H : Type} : DataW H → Nat
  | .lit (.string bytes) => bytes.length + 1
  | .lit _ => 1
  | .nil => 1
  | .ptr d => uptoBulk d + 1
  | .slice elems spare => uptoBulkAll elems + uptoBulkAll spare + 1
  | .agg parts => uptoBulkAll parts + 1
  | .iface _ d => uptoBulk d + 1
  | .map entries => uptoBulkEntries entries + 1
  | .held _ => 1
def uptoBulkAll {H : Type} : List (DataW H) → Nat
  | [] => 0
  | d :: r => uptoBulk d + uptoBulkAll r
def uptoBulkEntries {H : Type} : List (Lit × DataW H) → Nat
  | [] => 0
  | x :: r => uptoBulkEntry x + uptoBulkEntries r
def uptoBulkEntry {H : Type} : Lit × DataW H → Nat
  | (.string bytes, d) => bytes.length + uptoBulk d + 1
  | (_, d) => uptoBulk d + 1
 end
def uptoSmall : (H : Type) → List (DataW H) → Bool := fun _ ds => decide (uptoBulkAll ds ≤ 1048576)
def OpenSpec.upto (s : _root_.Go.ChangeSpec) : _root_.Go.OpenSpec := { _root_.Go.OpenSpec.ofChange s with cond := some uptoSmall }

/-- 'laws.FnGreedyPieces', WHERE WHAT IT READS IS OF BULK AT MOST 1048576: true; the input reads as it did. -/
def fnGreedyPiecesUptoRow : OpenClaim := { program := "ytdjgodemeaneeaa", sum := "0c7f3f6a49adbd06facb552a2f543a81e9656c91206fc6e0ba433fbf91a911ca", func := "loop.example/braille/laws.FnGreedyPieces", spec := "fnGreedyPieces", apart := false, narrowed := true }
def FnGreedyPiecesUptoSaid : Prop := fnGreedyPiecesUptoRow.holds Try.pinned (OpenSpec.upto fnGreedyPiecesSpec)

/-- 'laws.FnGreedyPiecesLong', WHERE WHAT IT READS IS OF BULK AT MOST 1048576: true; the input reads as it did. -/
def fnGreedyPiecesLongUptoRow : OpenClaim := { program := "ytdjgodemeaneeaa", sum := "0c7f3f6a49adbd06facb552a2f543a81e9656c91206fc6e0ba433fbf91a911ca", func := "loop.example/braille/laws.FnGreedyPiecesLong", spec := "fnGreedyPiecesLong", apart := false, narrowed := true }
def FnGreedyPiecesLongUptoSaid : Prop := fnGreedyPiecesLongUptoRow.holds Try.pinned (OpenSpec.upto fnGreedyPiecesLongSpec)

/-- 'laws.FnExactWordsIn', WHERE WHAT IT READS IS OF BULK AT MOST 1048576: true; the input reads as it did. -/
def fnExactWordsInUptoRow : OpenClaim := { program := "ytdjgodemeaneeaa", sum := "0c7f3f6a49adbd06facb552a2f543a81e9656c91206fc6e0ba433fbf91a911ca", func := "loop.example/braille/laws.FnExactWordsIn", spec := "fnExactWordsIn", apart := false, narrowed := true }
def FnExactWordsInUptoSaid : Prop := fnExactWordsInUptoRow.holds Try.pinned (OpenSpec.upto fnExactWordsInSpec)

/-- 'laws.FnWordsIn', WHERE WHAT IT READS IS OF BULK AT MOST 1048576: true; the input reads as it did. -/
def fnWordsInUptoRow : OpenClaim := { program := "ytdjgodemeaneeaa", sum := "0c7f3f6a49adbd06facb552a2f543a81e9656c91206fc6e0ba433fbf91a911ca", func := "loop.example/braille/laws.FnWordsIn", spec := "fnWordsIn", apart := false, narrowed := true }
def FnWordsInUptoSaid : Prop := fnWordsInUptoRow.holds Try.pinned (OpenSpec.upto fnWordsInSpec)

/-- 'laws.FnWordsInWord', WHERE WHAT IT READS IS OF BULK AT MOST 1048576: true; the input reads as it did. -/
def fnWordsInWordUptoRow : OpenClaim := { program := "ytdjgodemeaneeaa", sum := "0c7f3f6a49adbd06facb552a2f543a81e9656c91206fc6e0ba433fbf91a911ca", func := "loop.example/braille/laws.FnWordsInWord", spec := "fnWordsInWord", apart := false, narrowed := true }
def FnWordsInWordUptoSaid : Prop := fnWordsInWordUptoRow.holds Try.pinned (OpenSpec.upto fnWordsInWordSpec)

/-- 'laws.FnIsUnique', WHERE WHAT IT READS IS OF BULK AT MOST 1048576: true; the input reads as it did. -/
def fnIsUniqueUptoRow : OpenClaim := { program := "ytdjgodemeaneeaa", sum := "0c7f3f6a49adbd06facb552a2f543a81e9656c91206fc6e0ba433fbf91a911ca", func := "loop.example/braille/laws.FnIsUnique", spec := "fnIsUnique", apart := false, narrowed := true }
def FnIsUniqueUptoSaid : Prop := fnIsUniqueUptoRow.holds Try.pinned (OpenSpec.upto fnIsUniqueSpec)

/-- 'laws.FnIsUniqueBack', WHERE WHAT IT READS IS OF BULK AT MOST 1048576: true; the input reads as it did. -/
def fnIsUniqueBackUptoRow : OpenClaim := { program := "ytdjgodemeaneeaa", sum := "0c7f3f6a49adbd06facb552a2f543a81e9656c91206fc6e0ba433fbf91a911ca", func := "loop.example/braille/laws.FnIsUniqueBack", spec := "fnIsUniqueBack", apart := false, narrowed := true }
def FnIsUniqueBackUptoSaid : Prop := fnIsUniqueBackUptoRow.holds Try.pinned (OpenSpec.upto fnIsUniqueBackSpec)

/-- 'laws.FnIsUniqueLess', WHERE WHAT IT READS IS OF BULK AT MOST 1048576: true; the input reads as it did. -/
def fnIsUniqueLessUptoRow : OpenClaim := { program := "ytdjgodemeaneeaa", sum := "0c7f3f6a49adbd06facb552a2f543a81e9656c91206fc6e0ba433fbf91a911ca", func := "loop.example/braille/laws.FnIsUniqueLess", spec := "fnIsUniqueLess", apart := false, narrowed := true }
def FnIsUniqueLessUptoSaid : Prop := fnIsUniqueLessUptoRow.holds Try.pinned (OpenSpec.upto fnIsUniqueLessSpec)

/-- 'laws.FnIsUniqueEven', WHERE WHAT IT READS IS OF BULK AT MOST 1048576: true; the input reads as it did. -/
def fnIsUniqueEvenUptoRow : OpenClaim := { program := "ytdjgodemeaneeaa", sum := "0c7f3f6a49adbd06facb552a2f543a81e9656c91206fc6e0ba433fbf91a911ca", func := "loop.example/braille/laws.FnIsUniqueEven", spec := "fnIsUniqueEven", apart := false, narrowed := true }
def FnIsUniqueEvenUptoSaid : Prop := fnIsUniqueEvenUptoRow.holds Try.pinned (OpenSpec.upto fnIsUniqueEvenSpec)

end Rows
end Go.Proofs.Ytdjgodemeaneeaa
