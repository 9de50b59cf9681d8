
/- Texts of cells and their parts: reading back. -/
import Derived.Test.YtbngkgfjhegkmaaPar
namespace Go.Proofs.Ytbngkgfjhegkmaa
open Go.RowKit

theorem fmtUp_cons (z : Int) (r : List Int) (k : Nat) : fmtUp (z :: r) (k + 1) = cellT z.toNat ++ (if k = 0 then [] else [45] ++ fmtUp r k) := by
  induction k with
  | zero => simp [fmtUp]
  | succ k ih =>
    have hs : fmtUp (z :: r) (k + 1 + 1) = fmtUp (z :: r) (k + 1) ++ [45] ++ cellT (r.getD k 0).toNat := by
      rw [fmtUp, if_neg (Nat.succ_ne_zero k)]; simp
    rw [hs, ih, if_neg (Nat.succ_ne_zero k)]
    cases k with
    | zero => simp [fmtUp]
    | succ k =>
      have h2 : fmtUp r (k + 1 + 1) = fmtUp r (k + 1) ++ [45] ++ cellT (r.getD (k + 1) 0).toNat := by
        rw [fmtUp, if_neg (Nat.succ_ne_zero k)]
      rw [h2, if_neg (Nat.succ_ne_zero k)]; simp
theorem parts_stop : ∀ (p r : List UInt8), (∀ b ∈ p, b ≠ 45) → parts (p ++ 45 :: r) = p :: parts r := by
  intro p
  induction p with
  | nil => intro r _; simp [parts]
  | cons b p ih =>
    intro r h
    have hb := h b (by simp)
    show parts (b :: (p ++ 45 :: r)) = _
    rw [parts, if_neg hb, ih r (fun x hx => h x (List.mem_cons_of_mem _ hx))]
theorem parts_last : ∀ (p : List UInt8), (∀ b ∈ p, b ≠ 45) → parts p = [p] := by
  intro p
  induction p with
  | nil => intro _; rfl
  | cons b p ih =>
    intro h
    have hb := h b (by simp)
    rw [parts, if_neg hb, ih (fun x hx => h x (List.mem_cons_of_mem _ hx))]
theorem cellT_clean : ∀ c : Nat, c < 64 → ∀ b ∈ cellT c, b ≠ 45 := by decide +kernel
theorem parts_fmt : ∀ (zs : List Int), (∀ z ∈ zs, 0 ≤ z ∧ z < 64) → zs ≠ [] → parts (fmtUp zs zs.length) = zs.map fun z => cellT z.toNat := by
  intro zs
  induction zs with
  | nil => intro _ h; exact absurd rfl h
  | cons z r ih =>
    intro h _
    have hz := h z (by simp)
    have hc := cellT_clean z.toNat (by omega)
    show parts (fmtUp (z :: r) (r.length + 1)) = _
    rw [fmtUp_cons]
    cases r with
    | nil => simp; exact parts_last _ hc
    | cons y r =>
      rw [if_neg (by simp)]
      show parts (cellT z.toNat ++ (45 :: fmtUp (y :: r) (y :: r).length)) = _
      rw [parts_stop _ _ hc, ih (fun x hx => h x (List.mem_cons_of_mem _ hx)) (by simp)]
      simp
theorem readParts_cells : ∀ (zs : List Int), (∀ z ∈ zs, 0 ≤ z ∧ z < 64) → readParts (zs.map fun z => cellT z.toNat) = some zs := by
  intro zs
  induction zs with
  | nil => intro _; rfl
  | cons z r ih =>
    intro h
    have hz := h z (by simp)
    have hp : pc (cellT z.toNat) = z := by rw [pc_of (c := z.toNat) (by omega) rfl]; omega
    show readParts (cellT z.toNat :: r.map fun z => cellT z.toNat) = _
    rw [readParts, hp, if_neg (show ¬ z < 0 from by omega), ih (fun x hx => h x (List.mem_cons_of_mem _ hx))]
    rfl
theorem fmtUp_ne {z : Int} {r : List Int} (h : 0 ≤ z ∧ z < 64) : fmtUp (z :: r) (r.length + 1) ≠ [] := by
  rw [fmtUp_cons]
  intro e
  have := (cellT_len z.toNat (by omega)).1
  rw [(List.append_eq_nil_iff.1 e).1] at this
  simp at this
/-- texts of cells are read back -/
theorem parse_fmt {zs : List Int} (h : ValidL zs) : parseL (fmtL zs) = some zs := by
  rw [fmtL, if_pos h]
  cases zs with
  | nil => rfl
  | cons z r =>
    have hz := h.2 z (by simp)
    have hne : fmtUp (z :: r) (z :: r).length ≠ [] := fmtUp_ne hz
    rw [parseL, if_neg hne, parts_fmt _ h.2 (by simp), if_pos (by rw [List.length_map]; exact h.1), readParts_cells _ h.2]
/-- the parts with hyphens between them -/
def joinH : List (List UInt8) → List UInt8
  | [] => []
  | p :: q => if q = [] then p else p ++ 45 :: joinH q
theorem parts_ne (l : List UInt8) : parts l ≠ [] := by
  rw [parts_tw]; simp
theorem join_parts : ∀ (l : List UInt8), joinH (parts l) = l := by
  intro l
  induction l with
  | nil => simp [parts, joinH]
  | cons c r ih =>
    rw [parts]
    by_cases hc : c = 45
    · subst hc
      rw [if_pos rfl, joinH, if_neg (parts_ne r), ih]; rfl
    · rw [if_neg hc]
      cases hp : parts r with
      | nil => exact absurd hp (parts_ne r)
      | cons p q =>
        rw [hp, joinH] at ih
        show joinH ((c :: p) :: q) = _
        rw [joinH]
        split
        · rename_i hq; rw [if_pos hq] at ih; rw [ih]
        · rename_i hq; rw [if_neg hq] at ih; rw [← ih]; rfl
theorem readParts_some : ∀ (q : List (List UInt8)) (zs : List Int), readParts q = some zs → (q = zs.map fun z => cellT z.toNat) ∧ ∀ z ∈ zs, 0 ≤ z ∧ z < 64 := by
  intro q
  induction q with
  | nil => intro zs h; simp [readParts] at h; subst h; simp
  | cons p q ih =>
    intro zs h
    rw [readParts] at h
    split at h
    · cases h
    · rename_i hc
      cases hq : readParts q with
      | none => rw [hq] at h; cases h
      | some r =>
        rw [hq] at h
        simp at h
        subst h
        obtain ⟨h1, h2⟩ := ih r hq
        rcases pc_cases p with ⟨c, hc64, hpc, hp⟩ | ⟨hpc, _⟩
        · refine ⟨?_, fun z hz => ?_⟩
          · rw [List.map_cons, hpc, ← h1]
            rw [show ((c : Int)).toNat = c from by omega, hp]
          · rcases List.mem_cons.1 hz with rfl | hz
            · omega
            · exact h2 z hz
        · omega
theorem join_cells : ∀ (zs : List Int), zs ≠ [] → joinH (zs.map fun z => cellT z.toNat) = fmtUp zs zs.length := by
  intro zs
  induction zs with
  | nil => intro h; exact absurd rfl h
  | cons z r ih =>
    intro _
    show _ = fmtUp (z :: r) (r.length + 1)
    rw [fmtUp_cons, List.map_cons, joinH]
    cases r with
    | nil => simp
    | cons y r =>
      rw [if_neg (by simp), if_neg (by simp), ih (by simp)]
      rfl
/-- texts of cells are written back -/
theorem fmt_parse {l : List UInt8} {zs : List Int} (h : parseL l = some zs) : fmtL zs = l ∧ ValidL zs := by
  rw [parseL] at h
  split at h
  · rename_i hl
    injection h with h
    subst h hl
    exact ⟨by simp [fmtL, fmtUp], by simp [ValidL]⟩
  · split at h
    · rename_i hl hn
      obtain ⟨h1, h2⟩ := readParts_some _ _ h
      have hlen : zs.length ≤ 200 := by rw [h1, List.length_map] at hn; exact hn
      have hv : ValidL zs := ⟨hlen, h2⟩
      have hz : zs ≠ [] := by rintro rfl; exact parts_ne l (by rw [h1]; rfl)
      rw [fmtL, if_pos hv, ← join_cells zs hz, ← h1, join_parts]
      exact ⟨rfl, hv⟩
    · cases h
/-- cells have hyphens between them -/
theorem parts_count : ∀ (l : List UInt8), (parts l).length = l.count 45 + 1 := by
  intro l
  induction l with
  | nil => rfl
  | cons c r ih =>
    rw [parts]
    by_cases hc : c = 45
    · subst hc
      rw [if_pos rfl, List.length_cons, ih, List.count_cons_self]
    · rw [if_neg hc, List.count_cons_of_ne hc, ← ih]
      cases hp : parts r with
      | nil => exact absurd hp (parts_ne r)
      | cons p q => rfl
end Go.Proofs.Ytbngkgfjhegkmaa
