
/- IsUnique and LongestRest: both sides. -/
import Derived.Test.YtdjgodemeaneeaaCt
namespace Go.Proofs.Ytdjgodemeaneeaa
open Go.RowKit

theorem s_IsUnique (w : World) (v : Value) (L : List (List Int)) (b u : Bool) (hx : ListsAt w v L) (hb : Hid (b = true ↔ ValidCd L)) (hu : Hid (u = true ↔ Uniq L)) :
    Calls Try.prog 30 #[v] w fun e w' => e = .returned (.bool (b && u)) ∧ Below w.heap.size w w' := by
  have HX := Lib.hid hx
  obtain ⟨a, c, rfl, x1, x2, _⟩ := hx
  cases b with
  | false =>
    go_enter Try.func30, Try.ntmps30
    go_wp2_with fail
    refine (s_validCode w _ L false HX.out hb).mono ?_
    rintro e w1 ⟨rfl, hb1⟩
    go_wp2
    go_ret
    exact ⟨rfl, hb1⟩
  | true =>
    have HVC : Hid (ValidCd L) := hb.out.1 rfl
    clear hb
    go_enter Try.func30, Try.ntmps30
    go_wp2_with fail
    refine (s_validCode w _ L true HX.out (show _ ↔ _ from ⟨fun _ => HVC.out, fun _ => rfl⟩)).mono ?_
    rintro e w1 ⟨rfl, hb1⟩
    go_wp2_with fail
    refine (s_isUnique w1 _ L u (HX.out.below hb1) HVC hu).mono ?_
    rintro e w2 ⟨rfl, hb2⟩
    have FIN := keptC (below_next hb1 hb2)
    clear hb1 hb2
    go_wp2
    go_ret
    exact ⟨by simp, FIN.out⟩
theorem longR_same {L : List (List Int)} {b u : Bool} {N M : Nat} (h : b = true ∧ u = true → Fin L N) (k : b = true ∧ u = true → Fin L M) : longR L b u N = longR L b u M := by
  by_cases e : b = true ∧ u = true
  · rw [(h e).same (k e)]
  · unfold longR
    rw [if_neg e, if_neg e]
/-- one answer for both sides -/
def LrOf (L : List (List Int)) (b u : Bool) (F : Int) : Prop := ∃ N, (b = true ∧ u = true → Fin L N) ∧ F = longR L b u N
theorem LrOf.same {L : List (List Int)} {b u : Bool} {F G : Int} (h : LrOf L b u F) (k : LrOf L b u G) : F = G := by
  obtain ⟨N, h1, rfl⟩ := h
  obtain ⟨M, h2, rfl⟩ := k
  exact longR_same h1 h2
end Go.Proofs.Ytdjgodemeaneeaa
