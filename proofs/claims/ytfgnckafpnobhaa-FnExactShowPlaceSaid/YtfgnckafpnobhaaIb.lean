
/- ValidPicture of both sides. -/
import Derived.Test.YtfgnckafpnobhaaIa
import Derived.Test.YtfgnckafpnobhaaRange
import Derived.Deep.QuietTactic
import Derived.BigQuiet
namespace Go.Proofs.Ytfgnckafpnobhaa
open Go.RowKit

theorem below_drewNI {b : Nat} {w w' : World} (h : Below b w w') (n : Nat) : Below b w (w'.drewN n) := ⟨h.os, h.tape, h.output, h.size, h.block⟩
/-- a function that only reads answers whether P -/
def AskI (P : Prop) (w : World) (e : Ending) (w' : World) : Prop := ∃ b : Bool, e = .returned (.bool b) ∧ w = w' ∧ (b = true ↔ P)
theorem askI_no {P : Prop} {w : World} (h : ¬ P) : AskI P w (.returned (.bool false)) w := ⟨false, rfl, rfl, fun e => by simp at e, fun k => absurd k h⟩
theorem askI_yes {P : Prop} {w : World} (h : P) : AskI P w (.returned (.bool true)) w := ⟨true, rfl, rfl, fun _ => h, fun _ => rfl⟩
/-- a function that writes nothing old answers whether P -/
def AskB (P : Prop) (w : World) (e : Ending) (w' : World) : Prop := ∃ b : Bool, e = .returned (.bool b) ∧ Below w.heap.size w w' ∧ (b = true ↔ P)
theorem askB_no {P : Prop} {w w' : World} (h : ¬ P) (hb : Below w.heap.size w w') : AskB P w (.returned (.bool false)) w' := ⟨false, rfl, hb, fun e => by simp at e, fun k => absurd k h⟩
theorem askB_yes {P : Prop} {w w' : World} (h : P) (hb : Below w.heap.size w w') : AskB P w (.returned (.bool true)) w' := ⟨true, rfl, hb, fun _ => h, fun _ => rfl⟩
theorem ListsAt.partsI {w : World} {v : Value} {L : List (List Int)} (h : ListsAt w v L) : ∃ a n cp, v = .slice a n cp ∧ L.length = n ∧ n ≤ cp ∧ cp ≤ 9223372036854775807 ∧ (n = 0 ∨ ∃ g off, a = some ⟨g, off, none⟩ ∧ ∀ i, i < n → ∃ u, w.cell? ⟨g, off + i, none⟩ = some u ∧ IntsAt w u (L.getD i [])) := by
  obtain ⟨a, cp, h1, h2, h3, h4⟩ := h
  exact ⟨a, _, cp, h1, rfl, h2, h3, h4.imp (fun e => by rw [e]; rfl) id⟩
theorem IntsAt.partsI {w : World} {v : Value} {zs : List Int} (h : IntsAt w v zs) : ∃ a n cp, v = .slice a n cp ∧ zs.length = n ∧ n ≤ cp ∧ cp ≤ 9223372036854775807 ∧ (n = 0 ∨ ∃ g off, a = some ⟨g, off, none⟩ ∧ ∀ i, i < n → w.cell? ⟨g, off + i, none⟩ = some (.int .i64 (zs.getD i 0))) := by
  obtain ⟨a, cp, h1, h2, h3, h4⟩ := h
  exact ⟨a, _, cp, h1, rfl, h2, h3, h4.imp (fun e => by rw [e]; rfl) id⟩

theorem i_within_yes (n lo hi : Int) (w : World) (h0 : lo ≤ n) (h1 : n ≤ hi) :
    Calls Try.prog 49 #[.int .i64 n, .int .i64 lo, .int .i64 hi] w fun e w' => e = .returned (.bool true) ∧ w = w' := by
  have d1 : decide (lo ≤ n) = true := decide_eq_true h0
  have d2 : decide (n ≤ hi) = true := decide_eq_true h1
  go_enter Try.func49, Try.ntmps49
  go_wp2
  go_ret
  exact ⟨rfl, rfl⟩
theorem i_within_no (n lo hi : Int) (w : World) (h : n < lo ∨ hi < n) :
    Calls Try.prog 49 #[.int .i64 n, .int .i64 lo, .int .i64 hi] w fun e w' => e = .returned (.bool false) ∧ w = w' := by
  by_cases h0 : lo ≤ n
  · have d1 : decide (lo ≤ n) = true := decide_eq_true h0
    have d2 : decide (n ≤ hi) = false := decide_eq_false (by omega)
    go_enter Try.func49, Try.ntmps49
    go_wp2
    go_ret
    exact ⟨rfl, rfl⟩
  · have d1 : decide (lo ≤ n) = false := decide_eq_false h0
    clear h
    go_enter Try.func49, Try.ntmps49
    go_wp2
    go_ret
    exact ⟨rfl, rfl⟩
set_option maxHeartbeats 1000000 in
theorem i_areWithin (w : World) (v : Value) (zs : List Int) (M : Int) (hx : IntsAt w v zs) :
    Calls Try.prog 66 #[v, .int .i64 M] w fun e w' => AskI (InTo zs M zs.length) w e w' := by
  obtain ⟨a, n, cp, rfl, hn, x1, x2, x3⟩ := hx.partsI
  have HN := Lib.hid hn
  have HX3 := keptI x3
  clear hx hn x3
  go_enter Try.func66, Try.ntmps66
  go_wp2
  go_loop [9] (fun i => ∃ k : Nat, k ≤ n ∧ i = .int .i64 k ∧ InTo zs M k) (fun i => n - (intOf i).toNat)
  case atStart => exact ⟨0, Nat.zero_le _, rfl, InTo.zero _ _⟩
  case round =>
    obtain ⟨k, hk, rfl, hok⟩ := hrel
    have HOK := keptI hok
    clear hok
    by_cases hlt : k < n
    · rcases HX3.out with rfl | ⟨g, off, rfl, x3⟩
      · omega
      have c1 := x3 k hlt
      obtain ⟨z, hz⟩ : ∃ z, zs.getD k 0 = z := ⟨_, rfl⟩
      rw [hz] at c1
      have HZ := Lib.hid hz
      clear hz x3
      by_cases hc : 0 ≤ z ∧ z ≤ M
      · have HE : Hid (InTo zs M (k + 1)) := HOK.out.succ (by rw [HZ.out]; exact hc)
        obtain ⟨hc1, hc2⟩ := hc
        go_wp2_with fail
        refine (i_within_yes z 0 M w hc1 hc2).mono ?_
        rintro e w' ⟨rfl, rfl⟩
        go_wp2
        go_round
        case rel => exact ⟨k + 1, by omega, by go_num, HE.out⟩
        case measure => simp [intOf]; omega
      · have HT : Hid (¬ InTo zs M zs.length) := fun h => hc (by have := h k (by rw [HN.out]; exact hlt); rw [HZ.out] at this; exact this)
        have hc' : z < 0 ∨ M < z := by omega
        clear hc
        go_wp2_with fail
        refine (i_within_no z 0 M w hc').mono ?_
        rintro e w' ⟨rfl, rfl⟩
        go_wp2
        go_ret
        exact askI_no HT.out
    · obtain rfl : k = n := by omega
      have HT : Hid (InTo zs M zs.length) := by rw [HN.out]; exact HOK.out
      go_wp2
      go_ret
      exact askI_yes HT.out
end Go.Proofs.Ytfgnckafpnobhaa
