
/- The draws of ValidCells, CellOf and FormatCells. -/
import Derived.Test.YtbngkgfjhegkmaaDrL
import Derived.Test.YtbngkgfjhegkmaaDotsO
import Derived.Laws.AppendOwnNone
namespace Go.Proofs.Ytbngkgfjhegkmaa
open Go.RowKit

def lenOf : Value → Nat | .slice _ n _ => n | _ => 0
theorem OwnInts.lenOf {w : World} {base : Nat} {v : Value} {zs : List Int} (h : OwnInts w base v zs) : lenOf v = zs.length := by
  obtain ⟨_, _, hs, _⟩ := h.at
  rw [hs]; rfl
theorem grown_of_below {a b : World} (h : Below a.heap.size a b) : a.grownBy b none := ⟨h.os, h.tape, h.output, h.size, fun k hk _ => h.block k hk⟩
/-- a draw that hands back a list, and writes new memory alone -/
def ListDrawn (lo hi : Int) (most : Nat) (w : World) (e : Ending) (w' : World) : Prop :=
  ∃ a n c zs, e = .returned (.slice a n c) ∧ IntsAt w' (.slice a n c) zs ∧ Hid (zs.length = n) ∧ Between lo hi zs ∧ n ≤ most ∧ Below w.heap.size w w'
theorem listDrawn_of {lo hi : Int} {most : Nat} {w w' : World} {S : Nat} {v : Value} {zs : List Int} (ho : OwnInts w' S v zs) (hb : Between lo hi zs) (hl : zs.length ≤ most) (hg : Below w.heap.size w w') : ListDrawn lo hi most w (.returned v) w' := by
  have h := ho.at
  have hs := h
  obtain ⟨a, c, rfl, _⟩ := hs
  exact ⟨a, _, c, zs, rfl, h, Lib.hid rfl, hb, hl, hg⟩

set_option maxHeartbeats 1000000 in
theorem drawFormatCells_any (w : World) (a : Option Addr) (len cap : Nat) (zs : List Int) (h : RowIn .u8 w a len cap zs) :
    Calls Try.prog 7 #[.slice a len cap] w fun e w' => ListDrawn (-1) 1000 10 w e w' := by
  obtain ⟨h1, h2, h3⟩ := bytesAt_of_row h
  clear h zs
  go_enter Try.func7, Try.ntmps7
  go_wp2_with fail
  refine (newReader_any w _ a len cap h1 (Nat.le_refl _) h2 h3).mono ?_
  rintro e w1 ⟨L, rfl, hrd, hgr⟩
  go_wp2_with fail
  refine (anyCells_any w1 w.heap.size w.heap.size L 0 10 hrd (by omega) (by omega)).mono ?_
  rintro e w2 ⟨v, zs, q, rfl, hown, hbt, hl, hrd2, hq, hg, a2, n2, c2, rfl⟩
  go_wp2
  go_ret
  exact listDrawn_of hown hbt hl (below_of_grown (grown_new hgr hg (Nat.le_refl _)))
theorem OwnInts.one (w : World) (z : Int) : OwnInts (w.alloc (.cells #[.int .i64 z] 3)) w.heap.size (.slice (some ⟨w.heap.size, 0, none⟩) 1 1) [z] :=
  ⟨rfl, .inr ⟨w.heap.size, 1, #[.int .i64 z], rfl, Nat.le_refl _, heap_alloc_new w _, Nat.le_refl _, by unfold maxLen; omega, rfl, rfl⟩⟩
theorem dots_between : ∀ c : Nat, c < 64 → Between (-1) 7 (dotsL c) := by
  have h : ∀ c : Nat, c < 64 → ∀ z ∈ dotsL c, (-1 : Int) ≤ z ∧ z ≤ 7 := by decide +kernel
  exact h
theorem ints_oneCell : ∀ (zs : List Int), ∀ u ∈ ints zs, u.oneCell' = true := by
  intro zs u hu
  simp [ints] at hu
  obtain ⟨z, _, rfl⟩ := hu
  rfl

end Go.Proofs.Ytbngkgfjhegkmaa
