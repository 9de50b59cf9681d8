
/- The exact law of GridLines. -/
import Derived.Test.YtidjnhlioebchaaZo
namespace Go.Proofs.Ytidjnhlioebchaa
open Go.RowKit

def lenTo (Z : List Int) : Nat → Nat
  | 0 => 0
  | k + 1 => lenTo Z k + (if k = 0 then 0 else 2) + (Z.getD k 0).toNat
theorem lineTo_length {L : List (List Int)} {Z : List Int} {n : Nat} (h : FitTo L Z n) : ∀ k, k ≤ n → (lineTo L Z k).length = lenTo Z k := by
  intro k
  induction k with
  | zero => intro _; rfl
  | succ k ih =>
    intro hk
    have h1 := ih (by omega)
    have h2 := h k (by omega)
    have h3 : (if k = 0 then ([] : List Int) else [0, 0]).length = if k = 0 then 0 else 2 := by split <;> simp
    simp only [lineTo, lenTo, List.length_append, List.length_replicate, h1, h3]
    omega
theorem lineG_len {G : List (List (List Int))} (hok : GridOk G) {i : Nat} (hi : i < G.length) : (lineG G i).length = lenTo (widths G) (G.getD 0 []).length := lineTo_length (grid_fit hok hi) _ (Nat.le_refl _)
theorem linesG_get {G : List (List (List Int))} {n i : Nat} (hi : i < n) : (linesG G n).getD i [] = lineG G i := by
  simp [linesG, List.getD_eq_getElem?_getD, hi]
theorem GlIs.small {G : List (List (List Int))} {R : List (List Int)} (h : GlIs G R) : ListsSmall R := by
  rcases h with ⟨hok, rfl⟩ | ⟨_, rfl⟩
  · have hn := hok.2.1
    refine ⟨by rw [linesG_len]; omega, fun i hi => ?_⟩
    rw [linesG_len] at hi
    rw [linesG_get hi]
    have := lineTo_len (grid_fit hok hi) _ (Nat.le_refl _)
    have hm := hok.2.2.2.1
    show (lineTo _ _ _).length ≤ _
    omega
  · exact ⟨by simp, fun i hi => absurd hi (by simp)⟩
/-- an answer that may be marked -/
def MkOk (w : World) (base top : Nat) (v : Value) (R : List (List Int)) : Prop := OwnLL w base top v R ∨ Emp w base top v R
theorem MkOk.at {w : World} {base top : Nat} {v : Value} {R : List (List Int)} (h : MkOk w base top v R) : ListsAt w v R := h.elim (fun h => h.ls.at) (fun h => h.at)
theorem MkOk.top {w : World} {base top : Nat} {v : Value} {R : List (List Int)} (h : MkOk w base top v R) : top ≤ w.heap.size := h.elim (fun h => h.1) (fun h => h.2.1)
theorem MkOk.blocks {w w' : World} {base top : Nat} {v : Value} {R : List (List Int)} (h : MkOk w base top v R) (hs : w.heap.size ≤ w'.heap.size) (hk : ∀ k, base ≤ k → k < top → w'.heap[k]? = w.heap[k]?) : MkOk w' base top v R := h.imp (fun h => h.blocks hs hk) (fun h => h.blocks hs hk)
theorem MkOk.below {w w' : World} {base top : Nat} {v : Value} {R : List (List Int)} (h : MkOk w base top v R) (hb : Below w.heap.size w w') : MkOk w' base top v R := h.blocks hb.size fun k _ hk => hb.block k (by have := h.top; omega)
theorem markIntSS_mk (w : World) (base top : Nat) (v : Value) (R : List (List Int)) (hO : MkOk w base top v R) (hs : Hid (ListsSmall R)) (r : Int) (hr : Hid (1 + (sumM R R.length : Int) = r)) :
    Calls Try.prog 38 #[v, .int .i64 1] w fun e w' => e = .returned (.int .i64 r) ∧ MidL base top w w' ∧ ∃ M, MarkedL R M R.length ∧ ListsAt w' v M := by
  rcases hO with h | h
  · exact (markIntSS_own w base top v R h hs r hr).mono fun _ _ ⟨h1, h2, M, h3, h4⟩ => ⟨h1, h2, M, h3, h4.ls.at⟩
  · have h1 : r = 1 := by rw [← hr.out, sumM_emp h.1 _ (Nat.le_refl _)]; rfl
    refine (markIntSS_emp w base top v R h).mono ?_
    rintro e w' ⟨rfl, k⟩
    have h2 : Emp w' base top v R := h.blocks k.size fun b _ hb => k.block b (.inr (Nat.zero_le _)) (by have := h.2.1; omega)
    exact ⟨by rw [h1], ⟨k.os, k.tape, k.output, k.size, fun b hb _ => k.block b (.inr (Nat.zero_le _)) hb⟩, R, marked_emp h.1, h2.at⟩
def MkOut (R : List (List Int)) (w : World) (e : Ending) (w' : World) : Prop := ∃ a n c, e = .returned (.slice a n c) ∧ MkOk w' w.heap.size w'.heap.size (.slice a n c) R ∧ Below w.heap.size w w'
theorem i_GridLines_m (w : World) (v : Value) (G : List (List (List Int))) (R : List (List Int)) (hx : GridP w v G) (hz : Hid (GlIs G R)) :
    Calls Try.prog 22 #[v] w fun e w' => MkOut R w e w' := by
  have emp : (∀ i, i < R.length → R.getD i [] = []) → Calls Try.prog 22 #[v] w fun e w' => MkOut R w e w' := fun hE =>
    (i_GridLines_z w v G R hx hz).mono fun _ _ ⟨a, n, c, h1, h2, h3⟩ => ⟨a, n, c, h1, .inr (Emp.of_ls h2 hE), h3⟩
  rcases hz.out with ⟨hok, rfl⟩ | ⟨_, rfl⟩
  · by_cases hne : ∀ i, i < G.length → lineG G i ≠ []
    · exact (i_GridLines_n w v G hx hok hne).mono fun _ _ ⟨a, n, c, h1, h2, h3⟩ => ⟨a, n, c, h1, .inl h2, h3⟩
    · refine emp fun i hi => ?_
      rw [linesG_len] at hi
      rw [linesG_get hi]
      have h0 : lenTo (widths G) (G.getD 0 []).length = 0 := Classical.byContradiction fun hc => hne fun j hj e => hc (by rw [← lineG_len hok hj, e]; rfl)
      exact List.length_eq_zero_iff.1 (by rw [lineG_len hok hi, h0])
  · exact emp fun i hi => absurd hi (by simp)
theorem GridP.of_nf {w : World} {g : Nat} {G : List (List (List Int))} (h : GNeFTo w g G G.length) (hs : G.length ≤ 1048576) : GridP w (.slice (some ⟨g, 0, none⟩) G.length G.length) G := by
  refine ⟨_, _, _, rfl, rfl, Nat.le_refl _, by omega, .inr ⟨g, 0, rfl, fun i hi => ?_⟩⟩
  rw [Nat.zero_add]
  obtain ⟨b, h1, _, h2, h3⟩ := h i hi
  refine ⟨_, _, _, h1, _, _, _, rfl, rfl, Nat.le_refl _, by omega, .inr ⟨b, 0, rfl, fun j hj => ?_⟩⟩
  rw [Nat.zero_add]
  obtain ⟨b2, k1, _, k2, k3, _⟩ := h3 j hj
  exact ⟨b2, 0, _, _, k1, ⟨_, _, rfl, Nat.le_refl _, by omega, .inr ⟨b2, 0, rfl, fun q hq => by rw [Nat.zero_add]; exact k3 q hq⟩⟩, rfl⟩
set_option maxHeartbeats 4000000 in
theorem exGridLines_walk (a : Option Addr) (len cap : Nat) (G : List (List (List Int))) (w : World) (hx : GridAt w (.slice a len cap) G) :
    Calls Try.prog 12 #[.slice a len cap] w fun e w' => e = .returned (.bool true) ∧ Below w.heap.size w w' := by
  have HX := keptZ hx
  obtain ⟨R, hz⟩ := glIs_ex G
  have HZ := keptZ hz
  have HRS := keptZ hz.small
  clear hx hz
  obtain ⟨r, hr⟩ : ∃ r : Int, 1 + (sumM R R.length : Int) = r := ⟨_, rfl⟩
  have HRR := Lib.hid hr
  have hr0 : 0 ≤ r := by rw [← hr]; omega
  have dr : decide (r < 0) = false := decide_eq_false (by omega)
  have er : (r != r) = false := by simp
  clear hr
  go_enter Try.func12, Try.ntmps12
  go_wp2_with fail
  refine (szIntSSS_any w _ G HX.out).mono ?_
  rintro e w1 ⟨k, rfl, hb1, hk⟩
  rcases hk with rfl | ⟨hk0, hk1, hs⟩
  · go_wp2
    go_ret
    exact ⟨rfl, hb1⟩
  · have d1 : decide (k < 0) = false := decide_eq_false (by omega)
    have HS := keptZ hs
    have HX1 := keptZ (HX.out.below hb1)
    clear hs
    go_wp2_with fail
    refine (toIntSSS_nf w1 _ G HX1.out HS.out).mono ?_
    rintro e w2 ⟨g2, rfl, _, hN2, hb2⟩
    have hB2 := below_next hb1 hb2
    have HU2 := keptZ (GridP.of_nf hN2 HS.out.1)
    clear hN2 hb1 hb2 HX1
    go_wp2_with fail
    refine (s_GridLines_z w2 _ G R HU2.out HZ).mono ?_
    rintro e w3 ⟨a3, n3, c3, rfl, hI3, hb3⟩
    have hB3 := below_next hB2 hb3
    have HO3 := keptZ hI3.at
    have hw3 : w.heap.size ≤ w3.heap.size := hB3.size
    clear hB2 hb3 HU2 hI3
    go_wp2_with fail
    refine (toIntSSS_nf w3 _ G (HX.out.below hB3) HS.out).mono ?_
    rintro e w4 ⟨gx, rfl, hgx, hN4, hb4⟩
    have hB4 := below_next hB3 hb4
    have HF4 := keptZ (hN4.gridF hgx HS.out.1)
    have HP4 := keptZ (GridP.of_nf hN4 HS.out.1)
    have KB4 := keptZ hb4
    have hw4 : w3.heap.size ≤ w4.heap.size := hb4.size
    clear hN4 hB3 hb4
    go_wp2_with fail
    refine (i_GridLines_m w4 _ G R HP4.out HZ).mono ?_
    rintro e w5 ⟨a5, n5, c5, rfl, hI5, hb5⟩
    have hB5 := below_next hB4 hb5
    have HF5 := keptZ (HF4.out.below hb5)
    have HU5 := keptZ (HP4.out.at.below hb5)
    have KB5 := keptZ (below_next KB4.out hb5)
    have HI5 := keptZ hI5
    clear hB4 hb5 HF4 HP4 KB4 hI5
    go_wp2_with fail
    refine (eqIntSS_same w5 _ _ R HI5.out.at (HO3.out.below KB5.out)).mono ?_
    rintro e w6 ⟨rfl, hb6⟩
    have hB6 := below_next hB5 hb6
    have HF6 := keptZ (HF5.out.below hb6)
    have HU6 := keptZ (HU5.out.below hb6)
    have KB6 := keptZ (below_next KB5.out hb6)
    have HI6 := keptZ (HI5.out.below hb6)
    clear hB5 hb6 HF5 HU5 KB5 HI5
    go_wp2_with fail
    refine (toIntSSS_any w6 _ G (HX.out.below hB6) HS.out).mono ?_
    rintro e w7 ⟨u7, rfl, hu7, hb7⟩
    have hB7 := below_next hB6 hb7
    have HF7 := keptZ (HF6.out.below hb7)
    have HU7 := keptZ (HU6.out.below hb7)
    have KB7 := keptZ (below_next KB6.out hb7)
    have HI7 := keptZ (HI6.out.below hb7)
    clear hB6 hb7 HF6 HU6 KB6 HI6
    go_wp2_with fail
    refine (eqIntSSS_same w7 _ _ G HU7.out hu7).mono ?_
    rintro e w8 ⟨rfl, hb8⟩
    have hB8 := below_next hB7 hb8
    have HF8 := keptZ (HF7.out.below hb8)
    have KB8 := keptZ (below_next KB7.out hb8)
    have HI8 := keptZ (HI7.out.below hb8)
    clear hB7 hb8 HF7 HU7 KB7 HI7 hu7
    go_wp2_with fail
    refine (markIntSSS_f w8 w3.heap.size w4.heap.size _ G HF8.out).mono ?_
    rintro e w9 ⟨r9, rfl, hr9, hs9⟩
    have d2 : decide (r9 < 0) = false := decide_eq_false (by omega)
    have hB9 : Below w.heap.size w w9 := hB8.trans ⟨hs9.os, hs9.tape, hs9.output, hs9.size, fun b hb => hs9.block b (.inl (by omega)) (Nat.lt_of_lt_of_le hb hB8.size)⟩
    have KB9 : Hid (Below w3.heap.size w3 w9) := KB8.out.trans ⟨hs9.os, hs9.tape, hs9.output, hs9.size, fun b hb => hs9.block b (.inl hb) (Nat.lt_of_lt_of_le hb KB8.out.size)⟩
    have HI9 := keptZ (HI8.out.blocks hs9.size (fun b h1 h2 => hs9.block b (.inr h1) (by have := HI8.out.top; omega)))
    clear hB8 HF8 hs9 KB8 HI8
    go_wp2_with fail
    refine (eqIntSS_same w9 _ _ R HI9.out.at (HO3.out.below KB9.out)).mono ?_
    rintro e w10 ⟨rfl, hb10⟩
    have hB10 := below_next hB9 hb10
    have KB10 := keptZ (below_next KB9.out hb10)
    have HI10 := keptZ (HI9.out.below hb10)
    clear hB9 hb10 KB9 HI9
    go_wp2_with fail
    refine (markIntSS_mk w10 w4.heap.size w5.heap.size _ R HI10.out HRS r HRR).mono ?_
    rintro e w11 ⟨rfl, hm11, M, hM, hI11⟩
    have hB11 : Below w.heap.size w w11 := hm11.below hB10 (by omega) hB10.size
    have KB11 := keptZ (hm11.below KB10.out hw4 KB10.out.size)
    have HM := keptZ hM
    have HI11 := keptZ hI11
    clear hB10 KB10 HI10 hm11 hM hI11
    go_wp2_with fail
    refine (heldIntSS_own w11 _ R M HI11.out HM HRS r HRR).mono ?_
    rintro e w' ⟨rfl, rfl⟩
    go_wp2_with fail
    refine (toIntSSS_nf w11 _ G (HX.out.below hB11) HS.out).mono ?_
    rintro e w12 ⟨g12, rfl, _, hN12, hb12⟩
    have hB12 := below_next hB11 hb12
    have HP12 := keptZ (GridP.of_nf hN12 HS.out.1)
    have KB12 := keptZ (below_next KB11.out hb12)
    have HI12 := keptZ (HI11.out.below hb12)
    clear hB11 hb12 hN12 KB11 HI11
    go_wp2_with fail
    refine (i_GridLines_m w12 _ G R HP12.out HZ).mono ?_
    rintro e w13 ⟨a13, n13, c13, rfl, hI13, hb13⟩
    have hB13 := below_next hB12 hb13
    have KB13 := keptZ (below_next KB12.out hb13)
    have HI13 := keptZ (HI12.out.below hb13)
    have HJ13 := keptZ hI13.at
    clear hB12 hb13 hI13 KB12 HI12 HP12
    go_wp2_with fail
    refine (eqIntSS_same w13 _ _ R HJ13.out (HO3.out.below KB13.out)).mono ?_
    rintro e w14 ⟨rfl, hb14⟩
    have hB14 := below_next hB13 hb14
    have HI14 := keptZ (HI13.out.below hb14)
    clear hB13 hb14 KB13 HI13 HJ13
    go_wp2_with fail
    refine (heldIntSS_own w14 _ R M HI14.out HM HRS r HRR).mono ?_
    rintro e w' ⟨rfl, rfl⟩
    go_wp2
    go_ret
    exact ⟨rfl, hB14⟩
end Go.Proofs.Ytidjnhlioebchaa
