
/- FnFormatCellsParts: its walk. -/
import Derived.Test.YtbngkgfjhegkmaaDrM
import Derived.Test.YtbngkgfjhegkmaaParM
import Derived.Deep.RegionHeld3
namespace Go.Proofs.Ytbngkgfjhegkmaa
open Go.RowKit

theorem i_FormatCells_u (w : World) (u : Value) (zs : List Int) (t : ByteArray) (hx : IntsAt w u zs) (ht : Hid (bs (fmtL zs) = t)) :
    Calls Try.prog 8 #[u] w fun e w' => e = .returned (.string t) ∧ Below w.heap.size w w' := by
  have := i_FormatCells w u zs hx
  unfold TextOut at this
  rw [ht.out] at this
  exact this
theorem s_FormatCells_u (w : World) (u : Value) (zs : List Int) (t : ByteArray) (hx : IntsAt w u zs) (ht : Hid (bs (fmtL zs) = t)) :
    Calls Try.prog 9 #[u] w fun e w' => e = .returned (.string t) ∧ Below w.heap.size w w' := by
  have := s_FormatCells w u zs hx
  unfold TextOut at this
  rw [ht.out] at this
  exact this
theorem fmtL_parts (zs : List Int) (h : ValidL zs) (hn : 2 ≤ zs.length) : fmtL zs = fmtL (zs.take 1) ++ [45] ++ fmtL (zs.drop 1) := by
  match zs, hn with
  | z :: y :: r, _ =>
    have h1 : ValidL [z] := ⟨by simp, fun x hx => h.2 x (by simp at hx; simp [hx])⟩
    have h2 : ValidL (y :: r) := ⟨by have := h.1; simp at this ⊢; omega, fun x hx => h.2 x (List.mem_cons_of_mem _ hx)⟩
    rw [fmtL, if_pos h]
    show fmtUp (z :: y :: r) ((y :: r).length + 1) = fmtL [z] ++ [45] ++ fmtL (y :: r)
    rw [fmtUp_cons, if_neg (by simp), fmtL, if_pos h1, fmtL, if_pos h2]
    simp [fmtUp]
theorem i_FormatCells_far (w0 w : World) (u : Value) (zs : List Int) (t : ByteArray) (hx : IntsAt w0 u zs) (hb : Below w0.heap.size w0 w) (ht : Hid (bs (fmtL zs) = t)) :
    Calls Try.prog 8 #[u] w fun e w' => e = .returned (.string t) ∧ Below w0.heap.size w0 w' :=
  (i_FormatCells_u w u zs t (hx.below hb) ht).mono fun _ _ ⟨h1, h2⟩ => ⟨h1, below_next hb h2⟩
theorem fmtL_len (zs : List Int) : (fmtL zs).length ≤ 1400 := by
  by_cases h : ValidL zs
  · rw [fmtL, if_pos h]
    have := fmtUp_len zs h.2 zs.length (Nat.le_refl _)
    have := h.1
    omega
  · rw [fmtL, if_neg h]; simp
theorem IntsAt.one {w : World} {g off n c : Nat} {zs : List Int} (h : IntsAt w (.slice (some ⟨g, off, none⟩) n c) zs) (hk : 1 ≤ n) (hn : Hid (zs.length = n)) : IntsAt w (.slice (some ⟨g, off, none⟩) 1 c) (zs.take 1) := by
  obtain ⟨a', c', hs, h1, h2, h3⟩ := h
  injection hs with e1 e2 e3
  subst e1 e3
  have hl : (zs.take 1).length = 1 := by have := hn.out; simp; omega
  refine ⟨_, c, by rw [hl], by omega, h2, ?_⟩
  rcases h3 with rfl | ⟨g', off', h3, h4⟩
  · exact .inl (by simp)
  · refine .inr ⟨g', off', h3, fun i hi => ?_⟩
    rw [h4 i (by have := hn.out; omega), List.getD_eq_getElem?_getD, List.getD_eq_getElem?_getD, List.getElem?_take, if_pos (by omega)]
theorem IntsAt.rest {w : World} {g off n c : Nat} {zs : List Int} (h : IntsAt w (.slice (some ⟨g, off, none⟩) n c) zs) (hk : 1 ≤ n) (hn : Hid (zs.length = n)) : IntsAt w (.slice (some ⟨g, off + 1, none⟩) (n - 1) (c - 1)) (zs.drop 1) := by
  obtain ⟨a', c', hs, h1, h2, h3⟩ := h
  injection hs with e1 e2 e3
  subst e1 e3
  have hl : (zs.drop 1).length = n - 1 := by have := hn.out; simp; omega
  refine ⟨_, c - 1, by rw [hl], by omega, by omega, ?_⟩
  rcases h3 with rfl | ⟨g', off', h3, h4⟩
  · exact .inl (by simp)
  · injection h3 with h3
    injection h3 with h3 h5
    subst h3 h5
    refine .inr ⟨g, off + 1, rfl, fun i hi => ?_⟩
    have := h4 (i + 1) (by have := hn.out; omega)
    rw [show off + 1 + i = off + (i + 1) from by omega, this]
    simp [List.getD_eq_getElem?_getD]

end Go.Proofs.Ytbngkgfjhegkmaa
