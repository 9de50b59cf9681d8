
/- Drawn codes. -/
import Derived.Test.YtnbppackijjohaaCj
import Derived.Test.YtnbppackijjohaaDrC
import Derived.Test.YtnbppackijjohaaDrL
import Derived.Test.YtnbppackijjohaaRd
import Derived.Test.YtnbppackijjohaaRdB
namespace Go.Proofs.Ytnbppackijjohaa
open Go.RowKit

theorem keptW {p : Prop} (h : p) : Hid p := h
theorem ElOk.typed {w w' : World} {u : Value} {zs : List Int} {row : Option Nat} (h : ElOk w 0 u zs) (hg : w.grownBy w' row) (hr : ∀ k, row = some k → ∃ cur t, t ≠ 3 ∧ w.heap[k]? = some (.cells cur t (0, 0))) : ElOk w' 0 u zs := by
  have key : ∀ b, u.ownBlock = some b → some b ≠ row := by
    intro b hb e
    obtain ⟨cur, t, ht, h2⟩ := hr b e.symm
    rcases h.2.1 b hb with h3 | ⟨cur', h3⟩
    · omega
    · rw [h2] at h3
      injection h3 with h3
      injection h3 with _ h4 _
      exact ht h4
  refine ⟨?_, fun b hb => ?_, h.2.2⟩
  · obtain ⟨a, cap, h1, h2, h3, h4⟩ := h.1
    refine ⟨a, cap, h1, h2, h3, ?_⟩
    rcases h4 with h4 | ⟨g, off, h4, h5⟩
    · exact .inl h4
    · refine .inr ⟨g, off, h4, fun i hi => ?_⟩
      have hc := h5 i hi
      have hlt := World.block_lt_of_cell? w _ hc
      rw [World.cell?_of_block (a := ⟨g, off + i, none⟩) (hg.block g hlt (key g (by rw [h1, h4]; rfl)))]
      exact hc
  · rcases h.2.1 b hb with h3 | ⟨cur', h3⟩
    · omega
    · refine .inr ⟨cur', ?_⟩
      rw [hg.block b (Array.getElem?_eq_some_iff.1 h3).1 (key b hb)]
      exact h3
/-- the reader goes on -/
theorem OwnLs.overR {w w' : World} {S B R L p : Nat} {v : Value} {P : List (List Int)} (h : OwnLs w S 0 v P) (hg : w.grownBy w' (some R)) (hrd : RD w B R L p) (hRS : R < S) : OwnLs w' S 0 v P := by
  have hrow := h.row
  obtain ⟨h0, us, h1, h2, h3⟩ := h
  obtain ⟨vr, hR, _⟩ := hrd
  refine ⟨h0, us, h1.kept hg ?_, h2, fun i hi => ?_⟩
  · cases hv : v.ownBlock with
    | none => exact .inl rfl
    | some q => exact .inr fun e => by injection e with e; have := (hrow q hv).1; omega
  · obtain ⟨u, h4, h5⟩ := h3 i hi
    exact ⟨u, h4, h5.typed hg (fun k hk => by injection hk with hk; subst hk; exact ⟨_, _, by decide, hR⟩)⟩
/-- a list is put in the place of another one -/
theorem OwnLs.set {w : World} {S g n cap : Nat} {P : List (List Int)} (h : OwnLs w S 0 (.slice (some ⟨g, 0, none⟩) n cap) P) (k : Nat) {u : Value} {zs : List Int} (hu : ElOk w 0 u zs) : OwnLs (w.setCell ⟨g, k, none⟩ u) S 0 (.slice (some ⟨g, 0, none⟩) n cap) (P.set k zs) := by
  have hrow := h.row
  obtain ⟨h0, us, h1, h2, h3⟩ := h
  have hn : n = P.length := by
    rcases h1.2 with ⟨hv, _⟩ | ⟨g', cap', cur, hv, _⟩
    · injection hv with hv _ _; exact absurd hv (by simp)
    · injection hv with _ e _
  subst hn
  obtain ⟨h4, h5⟩ := h1.stored k u
  have hr : ∀ q, some g = some q → 0 ≤ q ∧ ∃ cur, w.heap[q]? = some (.cells cur 28 (0, 0)) := fun q hq => ⟨Nat.zero_le _, (hrow q (by rw [← hq]; rfl)).2⟩
  refine ⟨h0, us.set k u, by rw [List.length_set]; exact h4, by rw [List.length_set, List.length_set, h2], fun i hi => ?_⟩
  rw [List.length_set] at hi
  by_cases e : k = i
  · subst e
    refine ⟨u, by rw [List.getElem?_set_self (by omega)], ?_⟩
    have : (P.set k zs).getD k [] = zs := by rw [List.getD_eq_getElem?_getD, List.getElem?_set_self hi]; rfl
    rw [this]
    exact hu.kept h5 hr
  · obtain ⟨u', h6, h7⟩ := h3 i hi
    refine ⟨u', by rw [List.getElem?_set_ne e]; exact h6, ?_⟩
    have : (P.set k zs).getD i [] = P.getD i [] := by rw [List.getD_eq_getElem?_getD, List.getElem?_set_ne e, ← List.getD_eq_getElem?_getD]
    rw [this]
    exact h7.kept h5 hr
theorem OwnLs.free {w : World} {S g n cap : Nat} {P : List (List Int)} (h : OwnLs w S 0 (.slice (some ⟨g, 0, none⟩) n cap) P) (k : Nat) : w.frozen? ⟨g, k, none⟩ = false := by
  obtain ⟨_, us, h1, _⟩ := h
  have hn : n = P.length := by
    rcases h1.2 with ⟨hv, _⟩ | ⟨g', cap', cur, hv, _⟩
    · injection hv with hv _ _; exact absurd hv (by simp)
    · injection hv with _ e _
  subst hn
  exact h1.frozenAt k
/-- lists of at most three numbers -/
def Len3 (P : List (List Int)) : Prop := ∀ zs ∈ P, zs.length ≤ 3
theorem Len3.nil : Len3 [] := fun z h => absurd h (by simp)
theorem Len3.snoc {P : List (List Int)} {zs : List Int} (h : Len3 P) (k : zs.length ≤ 3) : Len3 (P ++ [zs]) := fun y hy => by
  rcases List.mem_append.1 hy with hy | hy
  · exact h y hy
  · simp only [List.mem_singleton] at hy; subst hy; exact k
theorem Len3.set {P : List (List Int)} {zs : List Int} (h : Len3 P) (k : zs.length ≤ 3) (i : Nat) : Len3 (P.set i zs) := fun y hy => by
  rcases List.mem_or_eq_of_mem_set hy with hy | rfl
  · exact h y hy
  · exact k
/-- a drawn code -/
def CodeDrawn (w : World) (B R L p : Nat) (e : Ending) (w' : World) : Prop :=
  ∃ v P q, e = .returned v ∧ OwnLs w' w.heap.size 0 v P ∧ P.length ≤ 9 ∧ Len3 P ∧ RD w' B R L q ∧ q ≤ p + 100 ∧ w.grownBy w' (some R) ∧ ∃ a n c, v = .slice a n c
end Go.Proofs.Ytnbppackijjohaa
