
/- Dots that are near: near, dotsNear, canThin. -/
import Derived.Test.YthpbpdnlnmldeaaIh
import Derived.Test.YthpbpdnlnmldeaaIm
namespace Go.Proofs.Ythpbpdnlnmldeaa
open Go.RowKit

/-- the place i, j has a dot near y, x, and is another one -/
def HitI (f : Nat → Nat → Int) (n m : Nat) (y x : Int) (i j : Int) : Prop := pxI f n m i j = 1 ∧ (i ≠ y ∨ j ≠ x)
theorem near_int {f : Nat → Nat → Int} {n m y x F : Nat} : NearP f n m y x F ↔ ∃ i j : Int, ((y : Int) - F < i ∧ i < y + F) ∧ ((x : Int) - F < j ∧ j < x + F) ∧ HitI f n m y x i j := by
  constructor
  · rintro ⟨i, j, hi, hj, ⟨h1, h2⟩, ⟨h3, h4⟩, h5, h6⟩
    refine ⟨i, j, by omega, by omega, ?_, by omega⟩
    unfold pxI
    rw [if_pos (by omega)]
    simpa using h5
  · rintro ⟨i, j, h1, h2, h3, h4⟩
    unfold pxI at h3
    by_cases h : (0 ≤ i ∧ i < n) ∧ (0 ≤ j ∧ j < m)
    · rw [if_pos h] at h3
      exact ⟨i.toNat, j.toNat, by omega, by omega, by omega, by omega, h3, by omega⟩
    · rw [if_neg h] at h3; omega
def NoRowI (f : Nat → Nat → Int) (n m y x F : Nat) (i : Int) : Prop := ∀ i' j' : Int, (y : Int) - F < i' → i' < i → (x : Int) - F < j' → j' < x + F → ¬ HitI f n m y x i' j'
def NoColI (f : Nat → Nat → Int) (n m y x F : Nat) (i j : Int) : Prop := ∀ j' : Int, (x : Int) - F < j' → j' < j → ¬ HitI f n m y x i j'
theorem NoColI.succ {f : Nat → Nat → Int} {n m y x F : Nat} {i j : Int} (h : NoColI f n m y x F i j) (e : ¬ HitI f n m y x i j) : NoColI f n m y x F i (j + 1) := fun j' h1 h2 => by
  by_cases hj : j' = j
  · subst hj; exact e
  · exact h j' h1 (by omega)
theorem NoRowI.succ {f : Nat → Nat → Int} {n m y x F : Nat} {i : Int} (h : NoRowI f n m y x F i) (e : NoColI f n m y x F i ((x : Int) + F)) : NoRowI f n m y x F (i + 1) := fun i' j' h1 h2 h3 h4 => by
  by_cases hi : i' = i
  · subst hi; exact e j' h3 h4
  · exact h i' j' h1 (by omega) h3 h4
set_option maxHeartbeats 2000000 in
theorem s_near (w : World) (a : Option Addr) (n c m : Nat) (f : Nat → Nat → Int) (y x F : Nat) (hp : PicAt w a n c m f) (hn : n ≤ 1000) (hm : m ≤ 1000) (hy : y < n) (hx : x < m) (hF : 1 ≤ F ∧ F ≤ 1000) :
    Calls Try.prog 44 #[.slice a n c, .int .i64 (y : Int), .int .i64 (x : Int), .int .i64 (F : Int)] w fun e w' => AskI (NearP f n m y x F) w e w' := by
  have HAT : Hid (∀ i j : Int, Calls Try.prog 61 #[.slice a n c, .int .i64 i, .int .i64 j] w fun e w' => e = .returned (.int .i64 (pxI f n m i j)) ∧ w = w') := fun i j => s_at w a n c m f i j hp (by omega) (by omega)
  obtain ⟨hF1, hF2⟩ := hF
  clear hp
  go_enter Try.func44, Try.ntmps44
  go_wp2
  go_loop [9] (fun i => ∃ k : Int, (y : Int) - F + 1 ≤ k ∧ k ≤ y + F ∧ i = .int .i64 k ∧ Hid (NoRowI f n m y x F k)) (fun i => ((y : Int) + F - intOf i).toNat)
  case atStart => exact ⟨_, Int.le_refl _, by omega, rfl, fun i' j' h1 h2 => absurd h2 (by omega)⟩
  case round =>
    obtain ⟨k, hk1, hk2, rfl, HNR⟩ := hrel
    by_cases hlt : k < (y : Int) + (F : Int)
    · go_wp2
      go_loop [10] (fun j => ∃ l : Int, (x : Int) - F + 1 ≤ l ∧ l ≤ x + F ∧ j = .int .i64 l ∧ Hid (NoColI f n m y x F k l)) (fun j => ((x : Int) + F - intOf j).toNat)
      case atStart => exact ⟨_, Int.le_refl _, by omega, rfl, fun j' h1 h2 => absurd h2 (by omega)⟩
      case round =>
        obtain ⟨l, hl1, hl2, rfl, HNC⟩ := hrel
        by_cases hlt2 : l < (x : Int) + (F : Int)
        · obtain ⟨v, hv⟩ : ∃ v, pxI f n m k l = v := ⟨_, rfl⟩
          have HC := HAT.out k l
          rw [hv] at HC
          have HC := keptI HC
          have HV := Lib.hid hv
          clear hv
          by_cases h1 : v = 1
          · by_cases hky : k = (y : Int)
            · by_cases hlx : l = (x : Int)
              · have HN : Hid (¬ HitI f n m y x k l) := fun h => by rcases h.2 with h | h <;> omega
                have HNC2 := keptI (HNC.out.succ HN.out)
                have d1 : (v == 1) = true := by simp [h1]
                have d2 : (k == (y : Int)) = true := by simp [hky]
                have d3 : (l == (x : Int)) = true := by simp [hlx]
                have d4 : (k != (y : Int)) = false := by simp [hky]
                have d5 : (l != (x : Int)) = false := by simp [hlx]
                clear h1 hky hlx
                go_wp2_with fail
                refine HC.out.mono ?_
                rintro e w' ⟨rfl, rfl⟩
                go_wp2
                go_round
                case rel => exact ⟨l + 1, by omega, by omega, rfl, HNC2⟩
                case measure => simp [intOf]; omega
              · have HN : Hid (NearP f n m y x F) := near_int.2 ⟨k, l, by omega, by omega, by rw [HV.out]; exact h1, .inr hlx⟩
                have d1 : (v == 1) = true := by simp [h1]
                have d2 : (k == (y : Int)) = true := by simp [hky]
                have d3 : (l == (x : Int)) = false := by simp [hlx]
                have d4 : (k != (y : Int)) = false := by simp [hky]
                have d5 : (l != (x : Int)) = true := by simp [hlx]
                clear h1 hky hlx
                go_wp2_with fail
                refine HC.out.mono ?_
                rintro e w' ⟨rfl, rfl⟩
                go_wp2
                go_ret
                exact askI_yes HN.out
            · have HN : Hid (NearP f n m y x F) := near_int.2 ⟨k, l, by omega, by omega, by rw [HV.out]; exact h1, .inl hky⟩
              have d1 : (v == 1) = true := by simp [h1]
              have d2 : (k == (y : Int)) = false := by simp [hky]
              have d4 : (k != (y : Int)) = true := by simp [hky]
              clear h1 hky
              go_wp2_with fail
              refine HC.out.mono ?_
              rintro e w' ⟨rfl, rfl⟩
              go_wp2
              go_ret
              exact askI_yes HN.out
          · have HN : Hid (¬ HitI f n m y x k l) := fun h => h1 (by rw [← HV.out]; exact h.1)
            have HNC2 := keptI (HNC.out.succ HN.out)
            have d1 : (v == 1) = false := by simp [h1]
            clear h1
            go_wp2_with fail
            refine HC.out.mono ?_
            rintro e w' ⟨rfl, rfl⟩
            go_wp2
            go_round
            case rel => exact ⟨l + 1, by omega, by omega, rfl, HNC2⟩
            case measure => simp [intOf]; omega
        · have e : l = (x : Int) + F := by omega
          have HNR2 : Hid (NoRowI f n m y x F (k + 1)) := HNR.out.succ (by rw [← e]; exact HNC.out)
          clear e
          go_wp2
          go_round
          case rel => exact ⟨k + 1, by omega, by omega, rfl, HNR2⟩
          case measure => simp [intOf]; omega
    · have HN : Hid (¬ NearP f n m y x F) := fun h => by
        obtain ⟨i, j, ⟨h1, h2⟩, ⟨h3, h4⟩, h5⟩ := near_int.1 h
        exact HNR.out i j h1 (by omega) h3 h4 h5
      go_wp2
      go_ret
      exact askI_no HN.out
theorem i_dotsNear (w : World) (a : Option Addr) (n c m : Nat) (f : Nat → Nat → Int) (y x F : Nat) (hp : PicAt w a n c m f) (hf : Bin f n m) (hn : n ≤ 500) (hm : m ≤ 500) (hy : y < n) (hx : x < m) (hF : 1 ≤ F ∧ F ≤ 400) :
    Calls Try.prog 43 #[.slice a n c, .int .i64 (y : Int), .int .i64 (x : Int), .int .i64 (F : Int)] w fun e w' => e = .returned (.int .i64 (win f n m y x F)) ∧ w = w' := by
  have h := i_dotsIn w a n c m f ((y : Int) - F + 1) ((x : Int) - F + 1) (2 * F - 1) hp hf (by omega) (by omega) (by omega) (by omega) (by omega)
  have ey := span_win hy hF.1
  have ex := span_win hx hF.1
  rw [ey.1, ey.2, ex.1, ex.2] at h
  obtain ⟨s, hs⟩ : ∃ s, win f n m y x F = s := ⟨_, rfl⟩
  obtain ⟨A, hA⟩ : ∃ A, cn y F n * cn x F m = A := ⟨_, rfl⟩
  have H : Hid (Calls Try.prog 60 #[.slice a n c, .int .i64 ((y : Int) - F + 1), .int .i64 ((x : Int) - F + 1), .int .i64 (2 * F - 1)] w fun e w' => e = .returned (.tuple #[.int .i64 s, .int .i64 (A : Int)]) ∧ w = w') := h.mono fun _ _ ⟨h1, h2⟩ => ⟨by rw [h1, hA, ← hs]; rfl, h2⟩
  obtain ⟨hF1, hF2⟩ := hF
  rw [hs]
  clear h ey ex hs hA hp hf
  go_enter Try.func43, Try.ntmps43
  go_wp2_with fail
  refine H.out.mono ?_
  rintro e w' ⟨rfl, rfl⟩
  go_wp2
  go_ret
  exact ⟨rfl, rfl⟩
def ThinOk (L : List (List Int)) (far : Int) : Prop := BlockOk L 24 24 1 ∧ 1 ≤ far ∧ far ≤ 24
theorem i_canThin (w : World) (v : Value) (L : List (List Int)) (far : Int) (hx : ListsAt w v L) :
    Calls Try.prog 42 #[v, .int .i64 far] w fun e w' => AskI (ThinOk L far) w e w' := by
  have HX := keptI hx
  obtain ⟨a, n, cp, rfl, _⟩ := hx.partsI
  clear hx
  go_enter Try.func42, Try.ntmps42
  go_wp2_with fail
  refine (i_ValidPicture w _ L HX.out).mono ?_
  rintro e w0 ⟨b, rfl, rfl, hbb⟩
  cases b with
  | false =>
    have HT : Hid (¬ ThinOk L far) := fun h => by simpa using hbb.2 h.1
    clear hbb
    go_wp2
    go_ret
    exact askI_no HT.out
  | true =>
    have HOK := keptI (hbb.1 rfl)
    clear hbb
    by_cases hk : 1 ≤ far ∧ far ≤ 24
    · have HT : Hid (ThinOk L far) := ⟨HOK.out, hk⟩
      obtain ⟨h1, h2⟩ := hk
      go_wp2_with fail
      refine (i_within_yes far 1 24 _ h1 h2).mono ?_
      rintro e w' ⟨rfl, rfl⟩
      go_wp2
      go_ret
      exact askI_yes HT.out
    · have HT : Hid (¬ ThinOk L far) := fun h => hk h.2
      have hk' : far < 1 ∨ 24 < far := by omega
      clear hk
      go_wp2_with fail
      refine (i_within_no far 1 24 _ hk').mono ?_
      rintro e w' ⟨rfl, rfl⟩
      go_wp2
      go_ret
      exact askI_no HT.out
end Go.Proofs.Ythpbpdnlnmldeaa
