
/- BestPieces of drawn tables and words: the laws' walks P29 and P30. -/
import Derived.Test.YthojahknocageaaHl
import Derived.Test.YthojahknocageaaMJ
namespace Go.Proofs.Ythojahknocageaa
open Go.RowKit

set_option maxHeartbeats 1000000 in
theorem drawWordCells_any (w : World) (a : Option Addr) (len cap : Nat) (zs : List Int) (h : RowIn .u8 w a len cap zs) :
    Calls Try.prog 17 #[.slice a len cap] w fun e w' => GrMade w e w' := by
  go_enter Try.func17, Try.ntmps17
  go_wp2_with fail
  refine (drawGreedy_any w a len cap zs h).mono ?_
  rintro e w1 ⟨S, g, n, c, Q, s, rfl, H⟩
  have HK := keptH H
  clear H
  go_wp2
  refine bodyPost_ret (results_two rfl _ _ _) rfl ?_
  exact ⟨S, g, n, c, Q, s, rfl, HK.out⟩
theorem ListMade.len {C : List Int} {w' : World} {a : Option Addr} {n c : Nat} {S : Nat} (h : OwnInts w' S (.slice a n c) C) : C.length = n := by
  obtain ⟨_, _, e, _⟩ := h.at
  injection e with _ e2 _
  exact e2.symm
theorem TableAt.nilH (w : World) : TableAt w (.slice none 0 0) [] := ⟨none, 0, rfl, Nat.le_refl _, by omega, .inl rfl⟩
theorem valid_nil {s : ByteArray} {P : List PPiece} (h : ValidPv [] s P) : P = plainP s.size := by
  have key : ∀ i, i ≤ P.length → endAt P i = i ∧ ∀ j, j < i → P.getD j noP = ⟨-1, j, (j : Int) + 1⟩ := by
    intro i
    induction i with
    | zero => intro _; exact ⟨rfl, fun j hj => by omega⟩
    | succ i ih =>
      intro hi
      obtain ⟨h1, h2⟩ := ih (by omega)
      obtain ⟨h3, h4⟩ := h.1 i (by omega)
      rw [h1] at h3
      have h5 : (P.getD i noP).r = -1 ∧ (P.getD i noP).t = (P.getD i noP).f + 1 := by
        rcases h4.2.2 with h5 | ⟨h5, h6, _⟩
        · exact h5
        · have h6' : (P.getD i noP).r < 0 := h6
          omega
      have e : P.getD i noP = ⟨-1, i, (i : Int) + 1⟩ := by
        obtain ⟨h6, h7⟩ := h5
        rw [h3] at h7
        generalize P.getD i noP = p at h3 h6 h7 ⊢
        obtain ⟨r, f, t⟩ := p
        simp only at h3 h6 h7
        rw [h3, h6, h7]
      refine ⟨?_, fun j hj => ?_⟩
      · show (P.getD i noP).t = _
        rw [e]; simp
      · by_cases ej : j = i
        · subst ej; exact e
        · exact h2 j (by omega)
  obtain ⟨h1, h2⟩ := key P.length (Nat.le_refl _)
  have h3 := h.2
  rw [h1] at h3
  have hl : P.length = s.size := by omega
  apply List.ext_getElem
  · rw [plainP_len]; exact hl
  · intro i i1 i2
    have e1 := h2 i i1
    have e2 := plainP_at (n := s.size) (k := i) (by omega)
    rw [List.getD_eq_getElem?_getD, List.getElem?_eq_getElem i1] at e1
    rw [List.getD_eq_getElem?_getD, List.getElem?_eq_getElem i2] at e2
    simp only [Option.getD_some] at e1 e2
    rw [e1, e2]
theorem okW_nil {T : List PRule} {s : ByteArray} (h : OkW T s) : OkW [] s := ⟨⟨Nat.zero_le _, fun _ hi => absurd hi (Nat.not_lt_zero _), fun _ _ hi _ => absurd hi (Nat.not_lt_zero _)⟩, h.2⟩
end Go.Proofs.Ythojahknocageaa
