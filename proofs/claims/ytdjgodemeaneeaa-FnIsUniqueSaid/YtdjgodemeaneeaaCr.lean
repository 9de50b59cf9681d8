
/- IsUnique and LongestRest, in the program. -/
import Derived.Test.YtdjgodemeaneeaaCq
namespace Go.Proofs.Ytdjgodemeaneeaa
open Go.RowKit

/-- the first k lists of R are not in L -/
def NoIn (L R : List (List Int)) (k : Nat) : Prop := ∀ i, i < k → R.getD i [] ∉ L
theorem NoIn.zero (L R : List (List Int)) : NoIn L R 0 := fun i h => absurd h (by omega)
theorem NoIn.succ {L R : List (List Int)} {k : Nat} (h : NoIn L R k) (e : R.getD k [] ∉ L) : NoIn L R (k + 1) := fun i hi => by
  by_cases hik : i = k
  · subst hik; exact e
  · exact h i (by omega)
set_option maxHeartbeats 2000000 in
theorem i_noneIn (w : World) (v u : Value) (L R : List (List Int)) (b : Bool) (hx : ListsAt w v L) (hy : ListsAt w u R) (hb : Hid (b = true ↔ NoIn L R R.length)) :
    Calls Try.prog 57 #[v, u] w fun e w' => e = .returned (.bool b) ∧ Below w.heap.size w w' := by
  have HX := Lib.hid hx
  have HY := Lib.hid hy
  obtain ⟨a, c, rfl, x1, x2, _⟩ := hx
  obtain ⟨a', c', rfl, y1, y2, _⟩ := hy
  obtain ⟨n, hn⟩ : ∃ n, R.length = n := ⟨_, rfl⟩
  rw [hn] at y1 HY hb ⊢
  have HN := Lib.hid hn
  clear hn
  go_enter Try.func57, Try.ntmps57
  go_wp2
  go_loopw [9] (fun x wr => ∃ k : Nat, k ≤ n ∧ x = .int .i64 k ∧ NoIn L R k ∧ Below w.heap.size w wr) (fun x _ => n - (intOf x).toNat)
  case atStart => exact ⟨0, Nat.zero_le _, rfl, NoIn.zero _ _, Below.refl _ _⟩
  case round =>
    obtain ⟨k, hk, rfl, hs, hB⟩ := hrel
    by_cases hlt : k < n
    · obtain ⟨g, off, u, rfl, c1, hu⟩ := (HY.out.below hB).someNth hlt
      obtain ⟨xs, hxs⟩ : ∃ xs, R.getD k [] = xs := ⟨_, rfl⟩
      rw [hxs] at hu
      have HXS := Lib.hid hxs
      have HU := keptC hu
      obtain ⟨a3, c3, rfl, _, _, _⟩ := hu
      have HXr := keptC (HX.out.below hB)
      have HB := keptC hB
      clear hxs hB
      by_cases hin : xs ∈ L
      · have HH : Hid (decide (xs ∈ L) = true) := decide_eq_true hin
        have HF : Hid (b = false) := by
          show b = false
          cases b
          · rfl
          · have := hb.out.1 rfl k hlt
            rw [HXS.out] at this
            exact absurd hin this
        clear hin hs
        go_wp2_with fail
        refine (i_hasList_b wr _ _ L xs true HXr.out HU.out HH).mono ?_
        rintro e w2 ⟨rfl, hb2⟩
        have FIN := keptC (below_next HB.out hb2)
        clear hb2
        go_wp2
        go_ret
        exact ⟨by rw [HF.out]; rfl, FIN.out⟩
      · have HH : Hid (decide (xs ∈ L) = false) := decide_eq_false hin
        have hs' := keptC (hs.succ (by rw [HXS.out]; exact hin))
        clear hin hs
        go_wp2_with fail
        refine (i_hasList_b wr _ _ L xs false HXr.out HU.out HH).mono ?_
        rintro e w2 ⟨rfl, hb2⟩
        have FIN := keptC (below_next HB.out hb2)
        clear hb2
        go_wp2
        go_roundw
        case rel => exact ⟨k + 1, by omega, by go_num, hs'.out, FIN.out⟩
        case measure => simp [intOf]; omega
    · obtain rfl : k = n := by omega
      have HF : Hid (b = true) := hb.out.2 hs
      have HB := keptC hB
      clear hs hB
      go_wp2
      go_ret
      exact ⟨by rw [HF.out]; rfl, HB.out⟩
theorem uniq_iff {L : List (List Int)} {N : Nat} (h : Fin L N) : Uniq L ↔ NoIn L (restN L N) (restN L N).length := by
  rw [fin_len h]
  constructor
  · rintro ⟨M, h1, h2⟩
    obtain rfl := h.same h1
    exact h2
  · exact fun k => ⟨N, h, k⟩
/-- what both sides answer: b, the code is valid; u, it is unique -/
theorem i_IsUnique (w : World) (v : Value) (L : List (List Int)) (b u : Bool) (hx : ListsAt w v L) (hb : Hid (b = true ↔ ValidCd L)) (hu : Hid (u = true ↔ Uniq L)) :
    Calls Try.prog 29 #[v] w fun e w' => e = .returned (.bool (b && u)) ∧ Below w.heap.size w w' := by
  have HX := Lib.hid hx
  obtain ⟨a, c, rfl, x1, x2, _⟩ := hx
  cases b with
  | false =>
    go_enter Try.func29, Try.ntmps29
    go_wp2_with fail
    refine (i_ValidCode w _ L false HX.out hb).mono ?_
    rintro e w1 ⟨rfl, hb1⟩
    go_wp2
    go_ret
    exact ⟨rfl, hb1⟩
  | true =>
    have HVC : Hid (ValidCd L) := hb.out.1 rfl
    clear hb
    go_enter Try.func29, Try.ntmps29
    go_wp2_with fail
    refine (i_ValidCode w _ L true HX.out (show _ ↔ _ from ⟨fun _ => HVC.out, fun _ => rfl⟩)).mono ?_
    rintro e w1 ⟨rfl, hb1⟩
    go_wp2_with fail
    refine (i_restsOf w1 _ L (HX.out.below hb1) HVC).mono ?_
    rintro e w2 ⟨N, hF, a2, n2, c2, rfl, hO, hb2⟩
    have hB := below_next hb1 hb2
    have HXr := keptC (HX.out.below hB)
    have HOr := keptC hO.at
    have HUU : Hid (u = true ↔ NoIn L (restN L N) (restN L N).length) := hu.out.trans (uniq_iff hF)
    have HB := keptC hB
    clear hb1 hb2 hO hF hB
    go_wp2_with fail
    refine (i_noneIn w2 _ _ L (restN L N) u HXr.out HOr.out HUU).mono ?_
    rintro e w3 ⟨rfl, hb3⟩
    have FIN := keptC (below_next HB.out hb3)
    clear hb3
    go_wp2
    go_ret
    exact ⟨by simp, FIN.out⟩
/-- the longest of the first k lists -/
def mxTo (R : List (List Int)) : Nat → Nat
  | 0 => 0
  | k + 1 => max (mxTo R k) (R.getD k []).length
def longR (L : List (List Int)) (b u : Bool) (N : Nat) : Int := if b = true ∧ u = true then (mxTo (restN L N) N : Int) else -1
end Go.Proofs.Ytdjgodemeaneeaa
