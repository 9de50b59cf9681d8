/- FnFormatCellsParts: its walk. -/
import Derived.Test.YtjffppabpdimkaaDrM
import Derived.Test.YtjffppabpdimkaaParM
import Derived.Deep.RegionHeld3
namespace Go.Proofs.Ytjffppabpdimkaa
open Go.RowKit

theorem i_FormatCells_u (w : World) (u : Value) (zs : List Int) (t : ByteArray) (hx : IntsAt w u zs) (ht : Hid (bs (fmtL zs) = t)) :
    Calls Try.prog 31 #[u] w fun e w' => e = .returned (.string t) ∧ Below w.heap.size w w' := by
  have := i_FormatCells w u zs hx
  unfold TextOut at this
  rw [ht.out] at this
  exact this
theorem s_FormatCells_u (w : World) (u : Value) (zs : List Int) (t : ByteArray) (hx : IntsAt w u zs) (ht : Hid (bs (fmtL zs) = t)) :
    Calls Try.prog 32 #[u] w fun e w' => e = .returned (.string t) ∧ Below w.heap.size w w' := by
  have := s_FormatCells w u zs hx
  unfold TextOut at this
  rw [ht.out] at this
  exact this
theorem fmtL_parts (zs : List Int) (h : ValidL zs) (hn : 2 ≤ zs.length) : fmtL zs = fmtL (zs.take 1) ++ [45] ++ fmtL (zs.drop 1) := by
  match zs, hn with
  | z :: y :: r, _ =>
    have h1 : ValidL [z] := ⟨by simp, fun x hx => h.2 x (by simp at hx; simp [hx])⟩
    have h2 : ValidL (y :: r) := ⟨by have := h.1; simp at this ⊢; omega, fun x hx => h.2 x (List.mem_cons_of_mem _ hx)⟩
    rw [fmtL, if_pos h]
    show fmtUp (z :: y :: r) ((y :: r).length + 1) = fmtL [z] ++ [45] ++ fmtL (y :: r)
    rw [fmtUp_cons, if_neg (by simp), fmtL, if_pos h1, fmtL, if_pos h2]
    simp [fmtUp]
theorem i_FormatCells_far (w0 w : World) (u : Value) (zs : List Int) (t : ByteArray) (hx : IntsAt w0 u zs) (hb : Below w0.heap.size w0 w) (ht : Hid (bs (fmtL zs) = t)) :
    Calls Try.prog 31 #[u] w fun e w' => e = .returned (.string t) ∧ Below w0.heap.size w0 w' :=
  (i_FormatCells_u w u zs t (hx.below hb) ht).mono fun _ _ ⟨h1, h2⟩ => ⟨h1, below_next hb h2⟩
theorem fmtL_len (zs : List Int) : (fmtL zs).length ≤ 1400 := by
  by_cases h : ValidL zs
  · rw [fmtL, if_pos h]
    have := fmtUp_len zs h.2 zs.length (Nat.le_refl _)
    have := h.1
    omega
  · rw [fmtL, if_neg h]; simp
theorem IntsAt.one {w : World} {g off n c : Nat} {zs : List Int} (h : IntsAt w (.slice (some ⟨g, off, none⟩) n c) zs) (hk : 1 ≤ n) (hn : Hid (zs.length = n)) : IntsAt w (.slice (some ⟨g, off, none⟩) 1 c) (zs.take 1) := by
  obtain ⟨a', c', hs, h1, h2, h3⟩ := h
  injection hs with e1 e2 e3
  subst e1 e3
  have hl : (zs.take 1).length = 1 := by have := hn.out; simp; omega
  refine ⟨_, c, by rw [hl], by omega, h2, ?_⟩
  rcases h3 with rfl | ⟨g', off', h3, h4⟩
  · exact .inl (by simp)
  · refine .inr ⟨g', off', h3, fun i hi => ?_⟩
    rw [h4 i (by have := hn.out; omega), List.getD_eq_getElem?_getD, List.getD_eq_getElem?_getD, List.getElem?_take, if_pos (by omega)]
theorem IntsAt.rest {w : World} {g off n c : Nat} {zs : List Int} (h : IntsAt w (.slice (some ⟨g, off, none⟩) n c) zs) (hk : 1 ≤ n) (hn : Hid (zs.length = n)) : IntsAt w (.slice (some ⟨g, off + 1, none⟩) (n - 1) (c - 1)) (zs.drop 1) := by
  obtain ⟨a', c', hs, h1, h2, h3⟩ := h
  injection hs with e1 e2 e3
  subst e1 e3
  have hl : (zs.drop 1).length = n - 1 := by have := hn.out; simp; omega
  refine ⟨_, c - 1, by rw [hl], by omega, by omega, ?_⟩
  rcases h3 with rfl | ⟨g', off', h3, h4⟩
  · exact .inl (by simp)
  · injection h3 with h3
    injection h3 with h3 h5
    subst h3 h5
    refine .inr ⟨g, off + 1, rfl, fun i hi => ?_⟩
    have := h4 (i + 1) (by have := hn.out; omega)
    rw [show off + 1 + i = off + (i + 1) from by omega, this]
    simp [List.getD_eq_getElem?_getD]

set_option maxHeartbeats 2000000 in
theorem formatCellsParts_walk (a : Option Addr) (len cap : Nat) (zs : List Int) (w : World) (h : RowIn .u8 w a len cap zs) :
    Calls Try.prog 8 #[.slice a len cap] w fun e w' => e = .returned (.bool true) ∧ Below w.heap.size w w' := by
  have hlen : len ≤ 9223372036854775807 := by
    obtain ⟨_, h2, h3⟩ := bytesAt_of_row h; unfold maxLen at h3; omega
  by_cases hbig : len ≤ 1048576
  · go_enter Try.func8, Try.ntmps8
    go_wp2_with fail
    refine (drawFormatCells_any w a len cap zs h).mono ?_
    rintro e w1 ⟨a1, n, c1, xs, rfl, hx, hn, hbt, hn7, hb1⟩
    clear h
    obtain ⟨t, ht⟩ : ∃ t, bs (fmtL xs) = t := ⟨_, rfl⟩
    have HT := Lib.hid ht
    go_wp2_with fail
    refine (i_FormatCells_u _ _ xs t hx HT).mono ?_
    rintro e w2 ⟨rfl, hb2⟩
    have hx := hx.below hb2
    have hB2 := below_next hb1 hb2
    go_wp2_with fail
    refine (s_FormatCells_u _ _ xs t hx HT).mono ?_
    rintro e w3 ⟨rfl, hb3⟩
    have hx := hx.below hb3
    have hB3 := below_next hB2 hb3
    by_cases hn2 : n < 2
    · have d1 : decide ((n : Int) < 2) = true := decide_eq_true (by omega)
      clear ht
      go_wp2_with fail
      refine (s_FormatCells_u _ _ xs t hx HT).mono ?_
      rintro e w4 ⟨rfl, hb4⟩
      go_wp2
      go_ret
      exact ⟨rfl, below_next hB3 hb4⟩
    · have d1 : decide ((n : Int) < 2) = false := decide_eq_false (by omega)
      by_cases hv : ValidL xs
      · have HB := Lib.hid (decide_eq_true hv)
        have hparts := fmtL_parts xs hv (by have := hn.out; omega)
        obtain ⟨t1, ht1⟩ : ∃ t, bs (fmtL (xs.take 1)) = t := ⟨_, rfl⟩
        obtain ⟨t2, ht2⟩ : ∃ t, bs (fmtL (xs.drop 1)) = t := ⟨_, rfl⟩
        have HT1 := Lib.hid ht1
        have HT2 := Lib.hid ht2
        have HS : Hid (t = t1 ++ (⟨#[45]⟩ : ByteArray) ++ t2) := by
          show t = _
          rw [← ht, ← ht1, ← ht2, show (⟨#[45]⟩ : ByteArray) = bs [45] from rfl, bs_append, bs_append, hparts]
        have hs1 : t1.size ≤ 1400 := by rw [← ht1, bs_size]; exact fmtL_len _
        have hs2 : t2.size ≤ 1400 := by rw [← ht2, bs_size]; exact fmtL_len _
        have hs3 : (t1 ++ (⟨#[45]⟩ : ByteArray)).size ≤ 1401 := by
          rw [← ht1, show (⟨#[45]⟩ : ByteArray) = bs [45] from rfl, bs_append, bs_size, List.length_append]
          have := fmtL_len (xs.take 1)
          simp; omega
        obtain ⟨_, c1', hs, hc1, hc2, h3⟩ := id hx
        have hsh : ∃ g off, a1 = some ⟨g, off, none⟩ := by
          rcases h3 with rfl | ⟨g, off, h3, _⟩
          · exact absurd hn.out (by simp; omega)
          · injection hs with e1; exact ⟨g, off, by rw [e1, h3]⟩
        obtain ⟨g, off, rfl⟩ := hsh
        have hnc : n ≤ c1 := by injection hs; have := hn.out; omega
        have hcc : c1 ≤ 9223372036854775807 := by injection hs; omega
        have hx1 := hx.one (by omega) hn
        have hx2 := hx.rest (by omega) hn
        clear ht ht1 ht2 hs hc1 hc2 h3 hparts hv
        go_wp2_with fail
        refine (i_ValidCells_f _ _ xs true hx HB).mono ?_
        rintro e w' ⟨rfl, rfl⟩
        have r1 := fun wx => run_string_add_sum (P := Try.prog) wx t1 (⟨#[45]⟩ : ByteArray) (by have : (⟨#[45]⟩ : ByteArray).size = 1 := rfl; omega)
        have r2 := fun wx => run_string_add_sum (P := Try.prog) wx (t1 ++ (⟨#[45]⟩ : ByteArray)) t2 (by omega)
        have b1 : (1 : Int) ≤ (n : Int) := by omega
        have b2 : (1 : Int) ≤ (c1 : Int) := by omega
        have b3 : (n : Int) ≤ (c1 : Int) := by omega
        have b4 : ¬ c1 = 1 := by omega
        go_wp2_with fail
        go_region_held3 (fun w' => Below w3.heap.size w3 w') (first | assumption | exact (Below.refl _ _).drew) (first | (go_at_call 31; (with_reducible refine (i_FormatCells_far w3 _ (.slice (some ⟨g, off, none⟩) 1 c1) (xs.take 1) t1 hx1 ?_ HT1).mono ?_) <;> (first | assumption | rintro e w' ⟨rfl, hbn⟩)) | (go_at_call 31; (with_reducible refine (i_FormatCells_far w3 _ (.slice (some ⟨g, off + 1, none⟩) (n - 1) (c1 - 1)) (xs.drop 1) t2 hx2 ?_ HT2).mono ?_) <;> (first | assumption | rintro e w' ⟨rfl, hbn⟩)))
        all_goals
          clear r1 r2
          go_wp2
          go_ret
          exact ⟨ret_bool (by rw [HS.out]; simp), below_next hB3 (by assumption)⟩
      · have HB := Lib.hid (decide_eq_false hv)
        clear ht hv
        go_wp2_with fail
        refine (i_ValidCells_f _ _ xs false hx HB).mono ?_
        rintro e w' ⟨rfl, rfl⟩
        go_wp2_with fail
        refine (s_FormatCells_u _ _ xs t hx HT).mono ?_
        rintro e w4 ⟨rfl, hb4⟩
        go_wp2
        go_ret
        exact ⟨rfl, below_next hB3 hb4⟩
  · have hbig' : 1048576 < len := by omega
    go_enter Try.func8, Try.ntmps8
    go_wp2
    go_ret
    exact ⟨rfl, Below.refl _ _⟩
end Go.Proofs.Ytjffppabpdimkaa
