
/- Mirrored pictures: laws.backwards, Mirror of the program, cells of the rows read backwards. -/
import Derived.Test.YtmmgeplhaooknaaJy
import Derived.IntWalk
namespace Go.Proofs.Ytmmgeplhaooknaa
open Go.RowKit

theorem IntsAt.addrM {w : World} {a : Option Addr} {n c : Nat} {zs : List Int} (h : IntsAt w (.slice a n c) zs) (hn : 0 < n) : ∃ g off, a = some ⟨g, off, none⟩ := by
  obtain ⟨a', cap, e, _, _, hc⟩ := h
  injection e with e1 e2 _
  subst e1
  rcases hc with rfl | ⟨g, off, e, _⟩
  · simp at e2; omega
  · exact ⟨g, off, e⟩
set_option maxHeartbeats 1000000 in
theorem backwards_I (w : World) (u : Value) (zs : List Int) (hx : IntsAt w u zs) (hl : zs.length ≤ 1000) :
    Calls Try.prog 29 #[u] w fun e w' => ∃ a n c, e = .returned (.slice a n c) ∧ OwnInts w' w.heap.size (.slice a n c) zs.reverse ∧ Below w.heap.size w w' := by
  obtain ⟨i0, hi, hz0, hz1, hz2⟩ := info_parts infoInt
  have HX := keptI hx
  obtain ⟨a, c, rfl, x1, x2, _⟩ := hx
  obtain ⟨n, hn⟩ : ∃ n, zs.length = n := ⟨_, rfl⟩
  rw [hn] at x1 HX hl ⊢
  have HN := keptI hn
  clear hn
  have hO0 : OwnInts (w.alloc (.cells #[] 3)) w.heap.size (.slice (some ⟨w.heap.size, 0, none⟩) 0 0) [] := OwnInts.made w w.heap.size (Nat.le_refl _)
  have hB0 : Below w.heap.size w (w.alloc (.cells #[] 3)) := (Below.refl _ _).alloc (Nat.le_refl _) _
  have u1 : IntKind.i64.wrap ((n : Int) - 1) = (n : Int) - 1 := IntWalk.i64_in _ (by omega)
  go_enter Try.func29, Try.ntmps29
  go_wp2_with fail
  generalize (w.alloc (.cells #[] 3)) = wA at hO0 hB0 ⊢
  go_loopw [3, 4] (fun v y wr => ∃ (k : Nat) (x : Int), k ≤ n ∧ y = .int .i64 x ∧ x = (k : Int) - 1 ∧ OwnInts wr w.heap.size v (zs.drop k).reverse ∧ Below w.heap.size w wr) (fun _ y _ => (intOf y + 1).toNat)
  case atStart => exact ⟨n, _, Nat.le_refl _, rfl, rfl, by rw [List.drop_eq_nil_of_le (by rw [HN.out]; exact Nat.le_refl _)]; exact hO0, hB0⟩
  case round =>
    clear hO0 hB0 u1
    obtain ⟨k, x, hk, rfl, hxk, hO, hB⟩ := hrel
    obtain ⟨ao, no, co, hoo⟩ : ∃ a n c, _ = Value.slice a n c := by
      obtain ⟨a, c, h, _⟩ := hO.at
      exact ⟨a, _, c, h⟩
    subst hoo
    have hs := hB.size
    by_cases hk0 : k = 0
    · subst hk0
      obtain rfl : x = -1 := by omega
      rw [List.drop_zero] at hO
      have HO := keptI hO
      have HB := keptI hB
      clear hO hB hxk
      go_wp2
      go_ret
      exact ⟨_, _, _, rfl, HO.out, HB.out⟩
    · obtain ⟨j, rfl⟩ : ∃ j, k = j + 1 := ⟨k - 1, by omega⟩
      obtain rfl : x = (j : Int) := by omega
      obtain ⟨g, off, rfl⟩ := HX.out.addrM (by omega)
      have hc : wr.cell? ⟨g, off + j, none⟩ = some (.int .i64 (zs.getD j 0)) := by
        obtain ⟨a', c', e, _, _, h5⟩ := HX.out.below hB
        injection e with e1 _ _
        rcases h5 with rfl | ⟨g', off', e5, h6⟩
        · have := HN.out; simp at this; omega
        · rw [← e1] at e5
          injection e5 with e5
          injection e5 with e6 e7 _
          subst e6 e7
          exact h6 j (by rw [HN.out]; omega)
      obtain ⟨z, hz⟩ : ∃ z, zs.getD j 0 = z := ⟨_, rfl⟩
      rw [hz] at hc
      have HST : Hid ((zs.drop j).reverse = (zs.drop (j + 1)).reverse ++ [z]) := by
        show _ = _
        rw [List.drop_eq_getElem_cons (by rw [HN.out]; omega : j < zs.length), List.reverse_cons, ← hz, List.getD_eq_getElem?_getD, List.getElem?_eq_getElem (by rw [HN.out]; omega), Option.getD_some]
      have hol : ((zs.drop (j + 1)).reverse).length ≤ 1000 := by rw [List.length_reverse, List.length_drop, HN.out]; omega
      obtain ⟨Z, hZ⟩ : ∃ Z, (zs.drop (j + 1)).reverse = Z := ⟨_, rfl⟩
      rw [hZ] at hO hol HST
      have u2 : IntKind.i64.wrap ((j : Int) - 1) = (j : Int) - 1 := IntWalk.i64_in _ (by omega)
      have dj : decide ((j : Int) < 0) = false := decide_eq_false (by omega)
      have b1 : (0 : Int) ≤ (j : Int) := by omega
      have b2 : (j : Int) < (n : Int) := by omega
      have HO := keptI hO
      have HB := keptI hB
      clear hz hZ hxk hk0 hB
      go_wp2_with (at_builtin; refine wpList_append_own _ rfl _ _ 26 rfl w.heap.size 3 i0 (.int .i64 0) 1 8 Try.underlying26 hi hz0 hz1 hz2 rfl (by decide) _ _ _ rfl (hO.alloc _) ⟨wr.heap.size, 0, none⟩ 1 1 [.int .i64 z] rfl rfl new_one one_cell (by unfold maxLen; omega) (by omega) (by simp; omega) ?_)
      intro v' w6 hown' hgrow _
      have HO6 := keptI (OwnInts.snoc hown')
      have HB6 := keptI (below_append HB.out hs HO.out hgrow)
      clear hown' hgrow hO
      go_wp2
      go_roundw
      case rel => exact ⟨j, _, by omega, rfl, rfl, by rw [HST.out]; exact HO6.out, HB6.out⟩
      case measure => first | (simp [intOf]; omega) | simp [intOf]
theorem ret_iM {a b : Int} (h : a = b) : Ending.returned (.int .i64 a) = .returned (.int .i64 b) := by rw [h]
theorem i_MirrorP (c m : Nat) (w : World) (hc : c < 64) (hm : c % 8 * 8 + c / 8 = m) :
    Calls Try.prog 30 #[.int .i64 c] w fun e w' => e = .returned (.int .i64 m) ∧ w' = w := by
  go_enter Try.func30, Try.ntmps30
  go_wp2_with (go_at_call 54; refine (i_isCell_yes _ _ (by omega) (by omega)).mono ?_; rintro e w' ⟨rfl, rfl⟩)
  go_ret
  exact ⟨ret_iM (by omega), rfl⟩
/-- a row read backwards -/
theorem rowOf_rev (m : Nat) (f : Nat → Int) : (rowOf m f).reverse = rowOf m fun x => f (m - 1 - x) := by
  apply List.ext_getElem
  · simp [rowOf]
  · intro i h1 h2
    simp [rowOf] at h1 h2 ⊢
/-- the dots of the rows read backwards -/
def bkF (f : Nat → Nat → Int) (m : Nat) : Nat → Nat → Int := fun y x => f y (m - 1 - x)
theorem block_row {L : List (List Int)} {H W : Nat} {M : Int} (h : BlockOk L H W M) {i : Nat} (hi : i < L.length) : L.getD i [] = rowOf (wdt L) (px L i) := by
  conv => lhs; rw [← h.self]
  rw [gridOf_row _ hi]
theorem block_rev {L : List (List Int)} {H W : Nat} {M : Int} (h : BlockOk L H W M) {i : Nat} (hi : i < L.length) : (L.getD i []).reverse = rowOf (wdt L) (bkF (px L) (wdt L) i) := by
  rw [block_row h hi, rowOf_rev]; rfl
theorem mir_bits {a b c d e g : Int} (h1 : a = 0 ∨ a = 1) (h2 : b = 0 ∨ b = 1) (h3 : c = 0 ∨ c = 1) (h4 : d = 0 ∨ d = 1) (h5 : e = 0 ∨ e = 1) (h6 : g = 0 ∨ g = 1) :
    d + 2 * e + 4 * g + 8 * a + 16 * b + 32 * c = (a + 2 * b + 4 * c + 8 * d + 16 * e + 32 * g) % 8 * 8 + (a + 2 * b + 4 * c + 8 * d + 16 * e + 32 * g) / 8 := by omega
/-- the cells of the rows read backwards -/
theorem pc_mirror {P R Q : List (List Int)} (h : PcFx P R) (hq : PicCellsIs (gridOf P.length (wdt P) (bkF (px P) (wdt P))) Q) (h2 : wdt P % 2 = 0) :
    Q.length = R.length ∧ wdt Q = wdt R ∧ BlockOk Q 8 12 63 ∧ ∀ i k, i < R.length → k < wdt R → px Q i (wdt R - 1 - k) = px R i k % 8 * 8 + px R i k / 8 := by
  have hd := h.ok.bd
  have hBok : BlockOk (gridOf P.length (wdt P) (bkF (px P) (wdt P))) 24 24 1 := grid_blockB (fun y x _ _ => h.ok.bin y _) hd.1 hd.2.1 hd.2.2.1 hd.2.2.2
  have hBl : (gridOf P.length (wdt P) (bkF (px P) (wdt P))).length = P.length := gridOf_len _ _ _
  have hBw : wdt (gridOf P.length (wdt P) (bkF (px P) (wdt P))) = wdt P := wdt_grid _ hd.1
  have hQ := hq.yes hBok
  have hQne : Q.length ≠ 0 := by rw [hQ, gridOf_len, hBl]; have := ceilD_pos (n := P.length) (k := 3) (by omega) (by omega); omega
  have hx := pc_facts hq hQne
  have hl : Q.length = R.length := by rw [hx.len, hBl, h.len]
  have hw : wdt Q = wdt R := by rw [hx.wd, hBw, h.wd]
  refine ⟨hl, hw, hx.okR, fun i k hi' hk' => ?_⟩
  rw [h.at' i k hi' hk', hx.at' i _ (by rw [hl]; exact hi') (by rw [hw]; omega)]
  have e2 : wdt R * 2 = wdt P := by rw [h.wd]; unfold ceilD; omega
  have e : ∀ y d, px (gridOf P.length (wdt P) (bkF (px P) (wdt P))) y (2 * (wdt R - 1 - k) + d) = if d < 2 then px P y (2 * k + (1 - d)) else px (gridOf P.length (wdt P) (bkF (px P) (wdt P))) y (2 * (wdt R - 1 - k) + d) := fun y d => by
    by_cases hd2 : d < 2
    · rw [if_pos hd2, px_grid]
      by_cases hy : y < P.length
      · rw [if_pos ⟨hy, by omega⟩]
        unfold bkF
        rw [show wdt P - 1 - (2 * (wdt R - 1 - k) + d) = 2 * k + (1 - d) by omega]
      · rw [if_neg fun c => hy c.1, px_out h.ok.2.2 (.inl (by omega))]
    · rw [if_neg hd2]
  have e0 := fun y => e y 0
  have e1 := fun y => e y 1
  simp only [Nat.add_zero, Nat.sub_zero, Nat.sub_self, Nat.zero_lt_two, Nat.one_lt_two, if_true] at e0 e1
  have b := h.ok.bin
  unfold pcF
  rw [e0, e0, e0, e1, e1, e1]
  have := mir_bits (b (3 * i) (2 * k)) (b (3 * i + 1) (2 * k)) (b (3 * i + 2) (2 * k)) (b (3 * i) (2 * k + 1)) (b (3 * i + 1) (2 * k + 1)) (b (3 * i + 2) (2 * k + 1))
  generalize px P (3 * i) (2 * k) = v1 at *
  generalize px P (3 * i + 1) (2 * k) = v2 at *
  generalize px P (3 * i + 2) (2 * k) = v3 at *
  generalize px P (3 * i) (2 * k + 1) = v4 at *
  generalize px P (3 * i + 1) (2 * k + 1) = v5 at *
  generalize px P (3 * i + 2) (2 * k + 1) = v6 at *
  omega
end Go.Proofs.Ytmmgeplhaooknaa
