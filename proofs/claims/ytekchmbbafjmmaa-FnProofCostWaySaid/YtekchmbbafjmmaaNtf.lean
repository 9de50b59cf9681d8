
/- BarsOf: what it answers; both sides. -/
import Derived.Test.YtekchmbbafjmmaaNtc
namespace Go.Proofs.Ytekchmbbafjmmaa
open Go.RowKit

theorem results_twoN {fn : Func} {t u : Tmp} (h : fn.results = #[.tmp t, .tmp u]) (tmps : Array Value) (P : Program) (w : World) :
    (results fn tmps).run P w = .ok (.tuple #[tmps.getD t undef, tmps.getD u undef]) w := by
  simp [results, h]
/-- behind the first k notes the bar holds m eighths, and the bars before it end at L -/
inductive BarTo (P : List PNote) (s : Int) : Nat → Int → List Int → Prop
  | zero : BarTo P s 0 0 []
  | more {k m L} : BarTo P s k m L → m + lenV (P.getD k noN).v < s → BarTo P s (k + 1) (m + lenV (P.getD k noN).v) L
  | full {k m L} : BarTo P s k m L → m + lenV (P.getD k noN).v = s → BarTo P s (k + 1) 0 (L ++ [((k + 1 : Nat) : Int)])
theorem BarTo.bd {P : List PNote} {s : Int} (hs : 1 ≤ s) : ∀ {k m L}, BarTo P s k m L → 0 ≤ m ∧ m < s ∧ L.length ≤ k := by
  intro k m L h
  induction h with
  | zero => simp; omega
  | @more k m L h h2 ih => have := lenV_bd (P.getD k noN).v; omega
  | full h h2 ih => simp; omega
theorem BarTo.one {P : List PNote} {s : Int} (_ : 1 ≤ s) : ∀ {k m L}, BarTo P s k m L → ∀ {m' L'}, BarTo P s k m' L' → m = m' ∧ L = L' := by
  intro k m L h
  induction h with
  | zero => intro m' L' h'; cases h'; exact ⟨rfl, rfl⟩
  | @more k m L h h2 ih =>
    intro m' L' h'
    cases h' with
    | more g g2 => obtain ⟨rfl, rfl⟩ := ih g; exact ⟨rfl, rfl⟩
    | full g g2 => obtain ⟨rfl, rfl⟩ := ih g; omega
  | @full k m L h h2 ih =>
    intro m' L' h'
    cases h' with
    | more g g2 => obtain ⟨rfl, rfl⟩ := ih g; omega
    | full g g2 => obtain ⟨rfl, rfl⟩ := ih g; exact ⟨rfl, rfl⟩
theorem BarTo.back {P : List PNote} {s : Int} : ∀ {k m L}, BarTo P s k m L → ∀ j, j ≤ k → ∃ m' L', BarTo P s j m' L' := by
  intro k m L h
  induction h with
  | zero => intro j hj; obtain rfl : j = 0 := by omega
            exact ⟨_, _, .zero⟩
  | @more k m L h h2 ih =>
    intro j hj
    by_cases e : j = k + 1
    · subst e; exact ⟨_, _, .more h h2⟩
    · exact ih j (by omega)
  | @full k m L h h2 ih =>
    intro j hj
    by_cases e : j = k + 1
    · subst e; exact ⟨_, _, .full h h2⟩
    · exact ih j (by omega)
/-- what BarsOf answers -/
def BarsIs (P : List PNote) (s : Int) (L : List Int) (ok : Bool) : Prop :=
  (ok = true ∧ NtsOk P ∧ (1 ≤ s ∧ s ≤ 16) ∧ BarTo P s P.length 0 L) ∨ (ok = false ∧ L = [] ∧ ¬ ∃ L', NtsOk P ∧ (1 ≤ s ∧ s ≤ 16) ∧ BarTo P s P.length 0 L')
theorem barsIs_ex (P : List PNote) (s : Int) : ∃ L ok, BarsIs P s L ok := by
  by_cases h : ∃ L', NtsOk P ∧ (1 ≤ s ∧ s ≤ 16) ∧ BarTo P s P.length 0 L'
  · obtain ⟨L, h1, h2, h3⟩ := h; exact ⟨L, true, .inl ⟨rfl, h1, h2, h3⟩⟩
  · exact ⟨[], false, .inr ⟨rfl, rfl, h⟩⟩
theorem BarsIs.yes {P : List PNote} {s : Int} {L L' : List Int} {ok : Bool} (h : BarsIs P s L ok) (h1 : NtsOk P) (h2 : 1 ≤ s ∧ s ≤ 16) (h3 : BarTo P s P.length 0 L') : ok = true ∧ L = L' := by
  rcases h with ⟨a, _, _, d⟩ | ⟨_, _, c⟩
  · exact ⟨a, (BarTo.one h2.1 d h3).2⟩
  · exact absurd ⟨_, h1, h2, h3⟩ c
theorem BarsIs.no {P : List PNote} {s : Int} {L : List Int} {ok : Bool} (h : BarsIs P s L ok) (h3 : ¬ ∃ L', NtsOk P ∧ (1 ≤ s ∧ s ≤ 16) ∧ BarTo P s P.length 0 L') : ok = false ∧ L = [] := by
  rcases h with ⟨a, b, c, d⟩ | ⟨a, b, _⟩
  · exact absurd ⟨_, b, c, d⟩ h3
  · exact ⟨a, b⟩
/-- a bar that is too long has no bars behind it -/
theorem BarTo.stop {P : List PNote} {s : Int} (hs : 1 ≤ s) {k m : Nat} {mm m' : Int} {L L' : List Int} (h : BarTo P s k mm L) (hlt : s < mm + lenV (P.getD k noN).v) (hk : k < m) : ¬ BarTo P s m m' L' := fun g => by
  obtain ⟨m2, L2, g2⟩ := g.back (k + 1) (by omega)
  cases g2 with
  | more g3 g4 => obtain ⟨rfl, rfl⟩ := BarTo.one hs h g3; omega
  | full g3 g4 => obtain ⟨rfl, rfl⟩ := BarTo.one hs h g3; omega
theorem BarTo.left {P : List PNote} {s : Int} (hs : 1 ≤ s) {k : Nat} {mm : Int} {L L' : List Int} (h : BarTo P s k mm L) (hlt : 0 < mm) : ¬ BarTo P s k 0 L' := fun g => by
  have := (BarTo.one hs h g).1
  omega
/-- a call's answer: the list, which it owns, and whether there is one -/
def BarsOut (L : List Int) (ok : Bool) (w : World) (e : Ending) (w' : World) : Prop :=
  ∃ a n c, e = .returned (.tuple #[.slice a n c, .bool ok]) ∧ OwnInts w' w.heap.size (.slice a n c) L ∧ Below w.heap.size w w'
theorem OwnInts.isSliceN {w : World} {base : Nat} {v : Value} {zs : List Int} (h : OwnInts w base v zs) : ∃ a n c, v = .slice a n c := by
  obtain ⟨a, c, h, _⟩ := h.at
  exact ⟨a, _, c, h⟩
end Go.Proofs.Ytekchmbbafjmmaa
