
/- The draw of one text of a list. -/
import Derived.Test.YthlamidlcbnchaaDrL
namespace Go.Proofs.Ythlamidlcbnchaa
open Go.RowKit

def strs (ps : List ByteArray) : Array Value := (ps.map Value.string).toArray
def OneStr (ps : List ByteArray) (w : World) (B R L p : Nat) (e : Ending) (w' : World) : Prop :=
  ∃ s : ByteArray, e = .returned (.string s) ∧ s ∈ ps ∧ RD w' B R L (p + 1) ∧ w.grownBy w' (some R)
theorem cell_of_strs {w w' : World} {R g : Nat} {ps : List ByteArray} (hg : w.heap[g]? = some (.cells (strs ps) 9 (0, 0))) (hne : g ≠ R) (hgr : w.grownBy w' (some R)) {k : Nat} (hk : k < ps.length) :
    ∃ s : ByteArray, w'.cell? ⟨g, k, none⟩ = some (.string s) ∧ s ∈ ps := by
  refine ⟨ps[k], ?_, List.getElem_mem _⟩
  have h1 : w'.heap[g]? = _ := (hgr.block g (Array.getElem?_eq_some_iff.1 hg).1 (by simpa using hne)).trans hg
  rw [cell_of_row w' g k _ _ _ h1]
  simp [strs, hk]

set_option maxHeartbeats 400000 in
theorem of_any (w : World) (B R L p g cap len : Nat) (ps : List ByteArray) (h : RD w B R L p) (hg : w.heap[g]? = some (.cells (strs ps) 9 (0, 0))) (hne : g ≠ R) (hl : Hid (len = ps.length)) (h0 : 1 ≤ len) (h2 : len ≤ 1000000)
    (hp : p ≤ 1000000000000) :
    Calls Try.prog 50 #[.pointer (some ⟨R, 0, none⟩), .slice (some ⟨g, 0, none⟩) len cap] w fun e w' => OneStr ps w B R L p e w' := by
  have HG := Lib.hid hg
  clear hg
  go_enter Try.func50, Try.ntmps50
  go_wp2_with (go_at_call 43; refine (pick_any w B R L p _ h hp (by omega) (by omega)).mono ?_; rintro e w1 ⟨k, rfl, hk, hrd, hgr⟩; obtain ⟨z, hz, hm⟩ := cell_of_strs HG.out hne hgr (k := k) (by rw [← hl.out]; omega))
  go_ret
  exact ⟨z, rfl, hm, hrd, hgr⟩
/-- a text of at most n bytes, drawn -/
def TextDrawn (n more : Nat) (w : World) (B R L p : Nat) (e : Ending) (w' : World) : Prop :=
  ∃ (s : ByteArray) (q : Nat), e = .returned (.string s) ∧ s.size ≤ n ∧ RD w' B R L q ∧ q ≤ p + more ∧ w.grownBy w' (some R)
theorem small_strs {ps : List ByteArray} {s : ByteArray} {n : Nat} (h : (ps.all fun p => decide (p.size ≤ n)) = true) (hs : s ∈ ps) : s.size ≤ n := by
  have := List.all_eq_true.1 h s hs
  exact of_decide_eq_true this
end Go.Proofs.Ythlamidlcbnchaa
