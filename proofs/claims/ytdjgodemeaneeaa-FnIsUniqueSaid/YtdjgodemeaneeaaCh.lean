
/- In how many ways cells are code words: the model. -/
import Derived.Test.YtdjgodemeaneeaaCg
import Derived.Test.YtdjgodemeaneeaaExS
import Derived.Deep.QuietTactic
import Derived.BigQuiet
namespace Go.Proofs.Ytdjgodemeaneeaa
open Go.RowKit

theorem infoIntC : (Try.prog.info? 3).map (fun i => (i.zero, i.size, i.bytes)) = some (some (.int .i64 0), 1, 8) := by kernel_rfl
theorem FcFalse {b : Bool} {p : Prop} (h : ¬ p) (hb : b = true ↔ p) : b = false := by
  cases b
  · rfl
  · exact absurd (hb.1 rfl) h
/-- what both sides answer -/
def fcOf (L : List (List Int)) (zs : List Int) (b : Bool) : Int := if b = true ∧ ValidL zs ∧ zs.length ≤ 24 then fc L zs else -1
set_option maxHeartbeats 2000000 in
theorem i_FactorCount_any (w : World) (v u : Value) (L : List (List Int)) (zs : List Int) (b : Bool) (hx : ListsAt w v L) (hy : IntsAt w u zs) (hb : Hid (b = true ↔ ValidCd L)) :
    Calls Try.prog 31 #[v, u] w fun e w' => e = .returned (.int .i64 (fcOf L zs b)) ∧ Below w.heap.size w w' := by
  by_cases hok : b = true ∧ ValidL zs ∧ zs.length ≤ 24
  · have e : fcOf L zs b = fc L zs := if_pos hok
    rw [e]
    exact i_FactorCount w v u L zs hx hy (show ValidCd L from hb.out.1 hok.1) hok.2.2 (show _ from hok.2.1.2)
  · have e : fcOf L zs b = -1 := if_neg hok
    rw [e]
    clear e
    have HX := Lib.hid hx
    have HY := Lib.hid hy
    obtain ⟨a, c, rfl, x1, x2, _⟩ := hx
    obtain ⟨a', d, rfl, y1, y2, _⟩ := hy
    obtain ⟨m, hm⟩ : ∃ m, zs.length = m := ⟨_, rfl⟩
    rw [hm] at y1 HY hok ⊢
    clear hm
    cases b with
    | false =>
      go_enter Try.func31, Try.ntmps31
      go_wp2_with fail
      refine (i_ValidCode w _ L false HX.out hb).mono ?_
      rintro e w1 ⟨rfl, hb1⟩
      go_wp2
      go_ret
      exact ⟨rfl, hb1⟩
    | true =>
      have HVC : Hid (ValidCd L) := hb.out.1 rfl
      clear hb
      by_cases h24 : m ≤ 24
      · have HV : Hid (decide (ValidL zs) = false) := decide_eq_false fun h => hok ⟨rfl, h, h24⟩
        have d1 : decide (24 < (m : Int)) = false := decide_eq_false (by omega)
        clear hok
        go_enter Try.func31, Try.ntmps31
        go_wp2_with fail
        refine (i_ValidCode w _ L true HX.out (show _ ↔ _ from ⟨fun _ => HVC.out, fun _ => rfl⟩)).mono ?_
        rintro e w1 ⟨rfl, hb1⟩
        go_wp2_with fail
        have := i_ValidCells w1 _ zs (HY.out.below hb1)
        rw [HV.out] at this
        refine this.mono ?_
        rintro e w2 ⟨rfl, rfl⟩
        clear this
        go_wp2
        go_ret
        exact ⟨rfl, hb1⟩
      · have d1 : decide (24 < (m : Int)) = true := decide_eq_true (by omega)
        clear hok
        go_enter Try.func31, Try.ntmps31
        go_wp2_with fail
        refine (i_ValidCode w _ L true HX.out (show _ ↔ _ from ⟨fun _ => HVC.out, fun _ => rfl⟩)).mono ?_
        rintro e w1 ⟨rfl, hb1⟩
        go_wp2
        go_ret
        exact ⟨rfl, hb1⟩
end Go.Proofs.Ytdjgodemeaneeaa
