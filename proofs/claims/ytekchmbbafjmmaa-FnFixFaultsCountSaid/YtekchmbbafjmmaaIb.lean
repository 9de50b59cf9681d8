
/- ValidPicture of both sides. -/
import Derived.Test.YtekchmbbafjmmaaIa
import Derived.Test.YtekchmbbafjmmaaRange
import Derived.Deep.QuietTactic
import Derived.BigQuiet
namespace Go.Proofs.Ytekchmbbafjmmaa
open Go.RowKit

theorem below_drewNI {b : Nat} {w w' : World} (h : Below b w w') (n : Nat) : Below b w (w'.drewN n) := ⟨h.os, h.tape, h.output, h.size, h.block⟩
/-- a function that only reads answers whether P -/
def AskI (P : Prop) (w : World) (e : Ending) (w' : World) : Prop := ∃ b : Bool, e = .returned (.bool b) ∧ w = w' ∧ (b = true ↔ P)
theorem askI_no {P : Prop} {w : World} (h : ¬ P) : AskI P w (.returned (.bool false)) w := ⟨false, rfl, rfl, fun e => by simp at e, fun k => absurd k h⟩
theorem askI_yes {P : Prop} {w : World} (h : P) : AskI P w (.returned (.bool true)) w := ⟨true, rfl, rfl, fun _ => h, fun _ => rfl⟩
/-- a function that writes nothing old answers whether P -/
def AskB (P : Prop) (w : World) (e : Ending) (w' : World) : Prop := ∃ b : Bool, e = .returned (.bool b) ∧ Below w.heap.size w w' ∧ (b = true ↔ P)
theorem askB_no {P : Prop} {w w' : World} (h : ¬ P) (hb : Below w.heap.size w w') : AskB P w (.returned (.bool false)) w' := ⟨false, rfl, hb, fun e => by simp at e, fun k => absurd k h⟩
theorem askB_yes {P : Prop} {w w' : World} (h : P) (hb : Below w.heap.size w w') : AskB P w (.returned (.bool true)) w' := ⟨true, rfl, hb, fun _ => h, fun _ => rfl⟩
theorem ListsAt.partsI {w : World} {v : Value} {L : List (List Int)} (h : ListsAt w v L) : ∃ a n cp, v = .slice a n cp ∧ L.length = n ∧ n ≤ cp ∧ cp ≤ 9223372036854775807 ∧ (n = 0 ∨ ∃ g off, a = some ⟨g, off, none⟩ ∧ ∀ i, i < n → ∃ u, w.cell? ⟨g, off + i, none⟩ = some u ∧ IntsAt w u (L.getD i [])) := by
  obtain ⟨a, cp, h1, h2, h3, h4⟩ := h
  exact ⟨a, _, cp, h1, rfl, h2, h3, h4.imp (fun e => by rw [e]; rfl) id⟩
theorem IntsAt.partsI {w : World} {v : Value} {zs : List Int} (h : IntsAt w v zs) : ∃ a n cp, v = .slice a n cp ∧ zs.length = n ∧ n ≤ cp ∧ cp ≤ 9223372036854775807 ∧ (n = 0 ∨ ∃ g off, a = some ⟨g, off, none⟩ ∧ ∀ i, i < n → w.cell? ⟨g, off + i, none⟩ = some (.int .i64 (zs.getD i 0))) := by
  obtain ⟨a, cp, h1, h2, h3, h4⟩ := h
  exact ⟨a, _, cp, h1, rfl, h2, h3, h4.imp (fun e => by rw [e]; rfl) id⟩

theorem i_within_yes (n lo hi : Int) (w : World) (h0 : lo ≤ n) (h1 : n ≤ hi) :
    Calls Try.prog 78 #[.int .i64 n, .int .i64 lo, .int .i64 hi] w fun e w' => e = .returned (.bool true) ∧ w = w' := by
  have d1 : decide (lo ≤ n) = true := decide_eq_true h0
  have d2 : decide (n ≤ hi) = true := decide_eq_true h1
  go_enter Try.func78, Try.ntmps78
  go_wp2
  go_ret
  exact ⟨rfl, rfl⟩
theorem i_within_no (n lo hi : Int) (w : World) (h : n < lo ∨ hi < n) :
    Calls Try.prog 78 #[.int .i64 n, .int .i64 lo, .int .i64 hi] w fun e w' => e = .returned (.bool false) ∧ w = w' := by
  by_cases h0 : lo ≤ n
  · have d1 : decide (lo ≤ n) = true := decide_eq_true h0
    have d2 : decide (n ≤ hi) = false := decide_eq_false (by omega)
    go_enter Try.func78, Try.ntmps78
    go_wp2
    go_ret
    exact ⟨rfl, rfl⟩
  · have d1 : decide (lo ≤ n) = false := decide_eq_false h0
    clear h
    go_enter Try.func78, Try.ntmps78
    go_wp2
    go_ret
    exact ⟨rfl, rfl⟩
end Go.Proofs.Ytekchmbbafjmmaa
