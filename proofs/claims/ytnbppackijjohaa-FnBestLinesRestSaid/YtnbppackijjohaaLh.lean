
/- Where a full line ends. -/
import Derived.Test.YtnbppackijjohaaLg
namespace Go.Proofs.Ytnbppackijjohaa
open Go.RowKit

theorem Len40.drop {L : List (List Int)} (h : Len40 L) (k : Nat) : Len40 (L.drop k) := fun i => by
  rw [List.getD_eq_getElem?_getD, List.getElem?_drop, ← List.getD_eq_getElem?_getD]; exact h (k + i)
theorem Len40.take {L : List (List Int)} (h : Len40 L) (k : Nat) : Len40 (L.take k) := fun i => by
  by_cases hi : i < k
  · rw [getD_take _ _ _ _ hi]; exact h i
  · rw [List.getD_eq_getElem?_getD, List.getElem?_eq_none (by rw [List.length_take]; omega)]; simp
theorem MinL.drop {L : List (List Int)} (h : MinL L) (k : Nat) : MinL (L.drop k) := fun i hi => by
  rw [List.length_drop] at hi
  rw [List.getD_eq_getElem?_getD, List.getElem?_drop, ← List.getD_eq_getElem?_getD]; exact h (k + i) (by omega)
theorem MinL.take {L : List (List Int)} (h : MinL L) (k : Nat) : MinL (L.take k) := fun i hi => by
  rw [List.length_take] at hi
  rw [getD_take _ _ _ _ (by omega)]; exact h i (by omega)
/-- the first c words fit -/
def Fit (W : Int) (S : List (List Int)) (c : Nat) : Prop := ∀ j, 2 ≤ j → j ≤ c → ((pack (S.take j)).length : Int) ≤ W
theorem Fit.one (W : Int) (S : List (List Int)) : Fit W S 1 := fun j h1 h2 => absurd h1 (by omega)
theorem Fit.succ {W : Int} {S : List (List Int)} {c : Nat} {p : Int} (h : Fit W S c) (hp : Hid (((pack (S.take (c + 1))).length : Int) = p)) (e : p ≤ W) : Fit W S (c + 1) := fun j h1 h2 => by
  by_cases hj : j = c + 1
  · subst hj; rw [hp.out]; exact e
  · exact h j h1 (by omega)
set_option maxHeartbeats 2000000 in
theorem i_fullEnd (w : World) (v : Value) (L : List (List Int)) (at' : Nat) (W : Int) (hx : ListsAt w v L) (h0 : at' < L.length) (h30 : L.length ≤ 30) (h40 : Hid (Len40 L)) :
    Calls Try.prog 41 #[v, .int .i64 at', .int .i64 W] w fun e w' => ∃ c : Nat, e = .returned (.int .i64 ((at' + c : Nat) : Int)) ∧ w = w' ∧ Full W (L.drop at') c := by
  have HX := keptL hx
  obtain ⟨a, cp, rfl, x1, x2, x4⟩ := hx
  obtain ⟨n, hn⟩ : ∃ n, L.length = n := ⟨_, rfl⟩
  rw [hn] at x1 HX h0 h30 ⊢
  have HN := Lib.hid hn
  obtain ⟨g, off, rfl⟩ : ∃ g off, a = some ⟨g, off, none⟩ := by
    rcases x4 with rfl | ⟨g, off, h, _⟩
    · simp at hn; omega
    · exact ⟨g, off, h⟩
  clear hn x4
  go_enter Try.func41, Try.ntmps41
  go_wp2
  go_loop [7] (fun t => ∃ c : Nat, 1 ≤ c ∧ at' + c ≤ n ∧ t = .int .i64 ((at' + c : Nat) : Int) ∧ Hid (Fit W (L.drop at') c)) (fun t => n - (intOf t).toNat)
  case atStart => exact ⟨1, Nat.le_refl _, by omega, by go_num, Fit.one _ _⟩
  case round =>
    obtain ⟨c, hc1, hcn, rfl, HF⟩ := hrel
    by_cases hlt : at' + c < n
    · have HS : Hid (ListsAt w (.slice (some ⟨g, off + at', none⟩) (at' + c + 1 - at') (cp - at')) ((L.drop at').take (c + 1))) := by
        rw [show at' + c + 1 - at' = c + 1 from by omega]
        exact (HX.out.dropL at' (by omega)).take (c + 1) (by omega)
      have hl : ((L.drop at').take (c + 1)).length = c + 1 := by rw [List.length_take, List.length_drop, HN.out]; omega
      obtain ⟨p, hp⟩ : ∃ p : Int, ((pack ((L.drop at').take (c + 1))).length : Int) = p := ⟨_, rfl⟩
      have HP := Lib.hid hp
      have H40 : Hid (Len40 ((L.drop at').take (c + 1))) := (h40.out.drop _).take _
      clear hp
      have d1 : decide (((at' + c : Nat) : Int) < (n : Int)) = true := decide_eq_true (by omega)
      have b1 : (0 : Int) ≤ (at' : Int) := by omega
      go_wp2_with fail
      refine (i_lineLength w _ _ HS.out (by omega) (by omega) H40 p HP).mono ?_
      rintro e w2 ⟨rfl, rfl⟩
      by_cases hpW : p ≤ W
      · have dp : decide (p ≤ W) = true := decide_eq_true hpW
        have HF' := keptL (HF.out.succ HP hpW)
        clear HF HP HS
        go_wp2
        go_round
        case rel => exact ⟨c + 1, by omega, by omega, by go_num, HF'.out⟩
        case measure => simp [intOf]; omega
      · have dp : decide (p ≤ W) = false := decide_eq_false hpW
        have HR : Hid (Full W (L.drop at') c) := ⟨hc1, by rw [List.length_drop, HN.out]; omega, HF.out, .inr (by rw [HP.out]; omega)⟩
        clear HF HP HS
        go_wp2
        go_ret
        exact ⟨c, rfl, rfl, HR.out⟩
    · have HR : Hid (Full W (L.drop at') c) := ⟨hc1, by rw [List.length_drop, HN.out]; omega, HF.out, .inl (by rw [List.length_drop, HN.out]; omega)⟩
      have d1 : decide (((at' + c : Nat) : Int) < (n : Int)) = false := decide_eq_false (by omega)
      clear HF
      go_wp2
      go_ret
      exact ⟨c, rfl, rfl, HR.out⟩
end Go.Proofs.Ytnbppackijjohaa
