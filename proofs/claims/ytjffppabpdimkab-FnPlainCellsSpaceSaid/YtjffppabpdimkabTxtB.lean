
/- The text of one cell in the model, and the text of a list of cells. -/
import Derived.Test.YtjffppabpdimkabTxt
import Derived.Test.YtjffppabpdimkabVal
namespace Go.Proofs.Ytjffppabpdimkab
open Go.RowKit

theorem digit_at (y : Nat) (h0 : 1 ≤ y) (h1 : y ≤ 6) : (⟨#[48, 49, 50, 51, 52, 53, 54]⟩ : ByteArray).extract y (y + 1) = bs [digB y] := by
  rcases (show y = 1 ∨ y = 2 ∨ y = 3 ∨ y = 4 ∨ y = 5 ∨ y = 6 from by omega) with rfl | rfl | rfl | rfl | rfl | rfl <;> rfl

set_option maxHeartbeats 1000000 in
theorem s_showDots (c : Nat) (w : World) (hc : c < 64) :
    Calls Try.prog 102 #[.int .i64 c] w fun e w' => TextOut (cellT c) w e w' := by
  by_cases h0 : c = 0
  · subst h0
    go_enter Try.func102, Try.ntmps102
    go_wp2
    go_ret
    exact ⟨rfl, Below.refl _ _⟩
  · have e0 : ((c : Int) == 0) = false := by simp; omega
    have hD := dots_bd c hc
    have hT : cellT c = (dotsL c).map digB := by rw [cellT, if_neg h0]
    have hle : (dotsL c).length ≤ 6 := dotsUp_le c 6
    go_enter Try.func102, Try.ntmps102
    go_wp2_with fail
    refine (s_dotsOf c _ hc).mono ?_
    rintro e w1 ⟨v1, rfl, ho1, hb1, a1, n, c1, rfl⟩
    have hx := ho1.at
    obtain ⟨D, hDD⟩ : ∃ D, dotsL c = D := ⟨_, rfl⟩
    rw [hDD] at hx hD hT hle
    have HT := Lib.hid hT
    clear hT hDD ho1
    obtain ⟨_, _, hs, _, _, h3⟩ := id hx
    injection hs with hs1 hs2 hs3
    have hn : Hid (D.length = n) := hs2.symm
    have hn6 : n ≤ 6 := by omega
    subst hs1
    clear hs2 hs3 hle
    go_wp2_with fail
    go_loopw [3, 5] (fun v i wr => ∃ k : Nat, k ≤ n ∧ i = .int .i64 k ∧ v = .string (bs ((D.take k).map digB)) ∧ ∃ q, wr = w1.drewN q) (fun _ i _ => n - (intOf i).toNat)
    case atStart => exact ⟨0, Nat.zero_le _, rfl, rfl, 0, rfl⟩
    case round =>
      obtain ⟨k, hk, rfl, rfl, q, rfl⟩ := hrel
      by_cases hlt : k < n
      · rcases h3 with rfl | ⟨g, off, rfl, h4⟩
        · exact absurd hn.out (by simp; omega)
        have hkl : k < D.length := by have := hn.out; omega
        have cx := h4 k hkl
        obtain ⟨y, hy⟩ : ∃ y, D.getD k 0 = y := ⟨_, rfl⟩
        have hym := hD y (by rw [← hy, List.getD_eq_getElem?_getD, List.getElem?_eq_getElem hkl, Option.getD_some]; exact List.getElem_mem _)
        obtain ⟨hy1, hy6⟩ := hym
        obtain ⟨m, rfl⟩ : ∃ m : Nat, y = m := ⟨y.toNat, by omega⟩
        have hS : Hid ((D.take (k + 1)).map digB = (D.take k).map digB ++ [digB m]) := by show _ = _; rw [take_succ' hn.out hlt, hy, List.map_append]; rfl
        rw [hy] at cx
        have hll : ((D.take k).map digB).length ≤ 6 := by simp; omega
        obtain ⟨l, hl⟩ : ∃ l, (D.take k).map digB = l := ⟨_, rfl⟩
        rw [hl] at hS hll ⊢
        have hE := digit_at m (by omega) (by omega)
        have hz : (bs l).size ≤ 6 := by rw [bs_size]; exact hll
        have hz1 : (bs [digB m]).size = 1 := bs_size _
        have hadd : ¬ ((bs l).size + (bs [digB m]).size > 9223372036854775807) := by rw [hz1]; omega
        have hnot : ((9223372036854775807 : Nat) < (bs l).size + (bs [digB m]).size) = False := eq_false hadd
        have m0 : (0 : Int) ≤ (m : Int) := by omega
        have m1 : (m : Int) + 1 ≤ 7 := by omega
        have m2 : (m : Int) ≤ (m : Int) + 1 := by omega
        have k0 : (0 : Int) ≤ (k : Int) := by omega
        have k1 : (k : Int) < (n : Int) := by omega
        have u1 : IntKind.i64.wrap ((m : Int) + 1) = (m : Int) + 1 := IntWalk.i64_in _ (by omega)
        have u2 : ((m : Int) + 1).toNat = m + 1 := by omega
        have u3 : ((m : Int)).toNat = m := by omega
        clear hy h4 hl hkl hz hz1 hadd hD
        go_wp2
        go_quiet (fail)
        clear u1 u2 u3
        go_wp2
        go_roundw
        case rel => exact ⟨k + 1, by omega, by go_num, by rw [hS.out, ← bs_append], _, rfl⟩
        case measure => simp [intOf]; omega
      · obtain rfl : k = n := by omega
        have hl : (D.take k).map digB = cellT c := by rw [List.take_of_length_le (by rw [hn.out]; omega), HT.out]
        rw [hl]
        clear hl
        go_wp2
        go_ret
        exact ⟨rfl, below_drewN hb1 _⟩

/-- the text of the first k cells -/
def fmtUp (zs : List Int) : Nat → List UInt8
  | 0 => []
  | k + 1 => fmtUp zs k ++ (if k = 0 then [] else [45]) ++ cellT (zs.getD k 0).toNat
def fmtL (zs : List Int) : List UInt8 := if ValidL zs then fmtUp zs zs.length else []
theorem cellT_len : ∀ c : Nat, c < 64 → 1 ≤ (cellT c).length ∧ (cellT c).length ≤ 6 := by decide +kernel
theorem fmtUp_len (zs : List Int) (h : ∀ z ∈ zs, 0 ≤ z ∧ z < 64) : ∀ k, k ≤ zs.length → (fmtUp zs k).length ≤ 7 * k := by
  intro k
  induction k with
  | zero => intro _; simp [fmtUp]
  | succ k ih =>
    intro hk
    have h1 := ih (by omega)
    have hm : zs.getD k 0 ∈ zs := by
      rw [List.getD_eq_getElem?_getD, List.getElem?_eq_getElem (by omega), Option.getD_some]; exact List.getElem_mem _
    have h2 := h _ hm
    have h3 := cellT_len (zs.getD k 0).toNat (by omega)
    rw [fmtUp, List.length_append, List.length_append]
    split
    · rw [List.length_nil]; omega
    · rw [List.length_singleton]; omega

theorem i_ValidCells_f (w : World) (u : Value) (zs : List Int) (b : Bool) (hx : IntsAt w u zs) (hb : Hid (decide (ValidL zs) = b)) :
    Calls Try.prog 27 #[u] w fun e w' => e = .returned (.bool b) ∧ w = w' := by
  have := i_ValidCells w u zs hx
  rw [hb.out] at this
  exact this
theorem s_validCells_f (w : World) (u : Value) (zs : List Int) (b : Bool) (hx : IntsAt w u zs) (hb : Hid (decide (ValidL zs) = b)) :
    Calls Try.prog 75 #[u] w fun e w' => e = .returned (.bool b) ∧ w = w' := by
  have := s_validCells w u zs hx
  rw [hb.out] at this
  exact this

end Go.Proofs.Ytjffppabpdimkab
