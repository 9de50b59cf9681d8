
/- Whether a pattern fits a word at a place, in the program. -/
import Derived.Test.YtpohkeenfbaklaaQg
import Derived.Deep.QuietTactic
import Derived.BigQuiet
namespace Go.Proofs.Ytpohkeenfbaklaa
open Go.RowKit

theorem toList_neQ {a b : ByteArray} (h : a ≠ b) : a.toList ≠ b.toList := fun e => h (by
  have h1 := e
  rw [ByteArray.toList_eq, ByteArray.toList_eq] at h1
  exact ByteArray.ext (Array.ext' h1))
/-- the pattern fits the word s at the index a -/
def FitQ (p : PPat) (s : ByteArray) (a : Int) : Prop := 0 ≤ a ∧ a + p.t.size ≤ s.size ∧ s.extract a.toNat (a.toNat + p.t.size) = p.t ∧ (p.b = true → a = 0) ∧ (p.e = true → a + p.t.size = s.size)
instance (p : PPat) (s : ByteArray) (a : Int) : Decidable (FitQ p s a) := inferInstanceAs (Decidable (_ ∧ _))
set_option maxHeartbeats 2000000 in
theorem i_patternFits (w : World) (a2 : Option Addr) (n2 c2 : Nat) (t : ByteArray) (p1 p2 : Bool) (zs : List Int) (s : ByteArray) (a : Int) (b : Bool) (ht : t.size ≤ 6) (ha0 : -100 ≤ a) (ha1 : a ≤ 100) (hb : Hid (b = true ↔ FitQ ⟨t, p1, p2, zs⟩ s a)) :
    Calls Try.prog 62 #[.agg #[.string t, .bool p1, .bool p2, .slice a2 n2 c2], .string s, .int .i64 a] w fun e w' => e = .returned (.bool b) ∧ Below w.heap.size w w' := by
  have HNO : Hid (¬ FitQ ⟨t, p1, p2, zs⟩ s a → b = false) := fun h => by
    cases b
    · rfl
    · exact absurd (hb.out.1 rfl) h
  have HYE : Hid (FitQ ⟨t, p1, p2, zs⟩ s a → b = true) := fun h => hb.out.2 h
  have uw : IntKind.i64.wrap (a + (t.size : Int)) = a + (t.size : Int) := IntWalk.i64_in _ (by omega)
  clear hb
  by_cases c1 : a < 0
  · have d1 : decide (a < 0) = true := decide_eq_true c1
    have HF : Hid (b = false) := HNO.out fun h => by have := h.1; omega
    clear c1
    go_enter Try.func62, Try.ntmps62
    go_wp2_with fail
    go_quiet (fail)
    go_wp2
    go_ret
    exact ⟨retb HF.out.symm, below_drewN ((Below.refl _ _).alloc (Nat.le_refl _) _) _⟩
  · have d1 : decide (a < 0) = false := decide_eq_false c1
    obtain ⟨k, rfl⟩ : ∃ k : Nat, a = k := ⟨a.toNat, by omega⟩
    by_cases c3 : s.size < k + t.size
    · have d2 : decide ((s.size : Int) < (k : Int) + (t.size : Int)) = true := decide_eq_true (by omega)
      have HF : Hid (b = false) := HNO.out fun h => by have := h.2.1; simp only at this; omega
      clear c1 c3
      go_enter Try.func62, Try.ntmps62
      go_wp2_with fail
      go_quiet (fail)
      go_wp2
      go_ret
      exact ⟨retb HF.out.symm, below_drewN ((Below.refl _ _).alloc (Nat.le_refl _) _) _⟩
    · have d2 : decide ((s.size : Int) < (k : Int) + (t.size : Int)) = false := decide_eq_false (by omega)
      have b1 : (0 : Int) ≤ (k : Int) := by omega
      have b2 : (k : Int) + (t.size : Int) ≤ (s.size : Int) := by omega
      have b3 : (k : Int) ≤ (k : Int) + (t.size : Int) := by omega
      have n1 : ((k : Int) + (t.size : Int)).toNat = k + t.size := by omega
      have n2' : ((k : Int)).toNat = k := by omega
      by_cases e : s.extract k (k + t.size) = t
      · have e3 : (s.extract k (k + t.size)).toList = t.toList := by rw [e]
        have HE := Lib.hid e
        have HK : Hid (k + t.size ≤ s.size) := (show k + t.size ≤ s.size by omega)
        have hrest : (p1 = true ∧ k ≠ 0 ∧ b = false) ∨ ((p1 = false ∨ k = 0) ∧ p2 = true ∧ k + t.size ≠ s.size ∧ b = false) ∨ ((p1 = false ∨ k = 0) ∧ (p2 = false ∨ k + t.size = s.size) ∧ b = true) := by
          by_cases q1 : p1 = true ∧ k ≠ 0
          · exact .inl ⟨q1.1, q1.2, HNO.out fun h => by have := h.2.2.2.1 q1.1; omega⟩
          · have q1' : p1 = false ∨ k = 0 := by cases p1 <;> simp at q1 ⊢; exact q1
            by_cases q2 : p2 = true ∧ k + t.size ≠ s.size
            · exact .inr (.inl ⟨q1', q2.1, q2.2, HNO.out fun h => by have := h.2.2.2.2 q2.1; simp only at this; omega⟩)
            · have q2' : p2 = false ∨ k + t.size = s.size := by cases p2 <;> simp at q2 ⊢; exact q2
              refine .inr (.inr ⟨q1', q2', HYE.out ⟨by omega, by simp only; omega, by simp only [n2']; exact e, fun h => ?_, fun h => ?_⟩⟩)
              · rcases q1' with q | q
                · simp only at h; rw [q] at h; cases h
                · omega
              · rcases q2' with q | q
                · simp only at h; rw [q] at h; cases h
                · simp only; omega
        have HR := keptQ hrest
        clear e c1 c3 hrest HNO HYE
        go_enter Try.func62, Try.ntmps62
        go_wp2_with fail
        go_quiet (fail)
        by_cases hk0 : k = 0
        · have e0 : ((k : Int) == 0) = true := by simp; omega
          by_cases hks : k + t.size = s.size
          · have e4 : ((k : Int) + (t.size : Int) == (s.size : Int)) = true := by simp; omega
            have HF : Hid (b = true) := by
              rcases HR.out with ⟨_, h, _⟩ | ⟨_, _, h, _⟩ | ⟨_, _, h⟩
              · exact absurd hk0 h
              · exact absurd hks h
              · exact h
            clear hk0 hks
            cases p1 <;> cases p2 <;> (go_wp2; go_ret; exact ⟨retb HF.out.symm, below_drewN ((Below.refl _ _).alloc (Nat.le_refl _) _) _⟩)
          · have e4 : ((k : Int) + (t.size : Int) == (s.size : Int)) = false := by simp; omega
            have HF : Hid (b = !p2) := by
              rcases HR.out with ⟨_, h, _⟩ | ⟨_, h1, _, h⟩ | ⟨_, h1, h⟩
              · exact absurd hk0 h
              · show b = !p2; rw [h, h1]; rfl
              · rcases h1 with h1 | h1
                · show b = !p2; rw [h, h1]; rfl
                · exact absurd h1 hks
            clear hk0 hks
            cases p1 <;> cases p2 <;> (go_wp2; go_ret; exact ⟨retb HF.out.symm, below_drewN ((Below.refl _ _).alloc (Nat.le_refl _) _) _⟩)
        · have e0 : ((k : Int) == 0) = false := by simp; omega
          by_cases hks : k + t.size = s.size
          · have e4 : ((k : Int) + (t.size : Int) == (s.size : Int)) = true := by simp; omega
            have HF : Hid (b = !p1) := by
              rcases HR.out with ⟨h1, _, h⟩ | ⟨_, _, h, _⟩ | ⟨h1, _, h⟩
              · show b = !p1; rw [h, h1]; rfl
              · exact absurd hks h
              · rcases h1 with h1 | h1
                · show b = !p1; rw [h, h1]; rfl
                · exact absurd h1 hk0
            clear hk0 hks
            cases p1 <;> cases p2 <;> (go_wp2; go_ret; exact ⟨retb HF.out.symm, below_drewN ((Below.refl _ _).alloc (Nat.le_refl _) _) _⟩)
          · have e4 : ((k : Int) + (t.size : Int) == (s.size : Int)) = false := by simp; omega
            have HF : Hid (b = (!p1 && !p2)) := by
              rcases HR.out with ⟨h1, _, h⟩ | ⟨_, h1, _, h⟩ | ⟨h1, h2, h⟩
              · show b = (!p1 && !p2); rw [h, h1]; rfl
              · show b = (!p1 && !p2); rw [h, h1]; cases p1 <;> rfl
              · rcases h1 with h1 | h1
                · rcases h2 with h2 | h2
                  · show b = (!p1 && !p2); rw [h, h1, h2]; rfl
                  · exact absurd h2 hks
                · exact absurd h1 hk0
            clear hk0 hks
            cases p1 <;> cases p2 <;> (go_wp2; go_ret; exact ⟨retb HF.out.symm, below_drewN ((Below.refl _ _).alloc (Nat.le_refl _) _) _⟩)
      · have e3 := toList_neQ e
        have HF : Hid (b = false) := HNO.out fun h => e (by have := h.2.2.1; simp only [n2'] at this; exact this)
        have e5 : ((s.extract k (k + t.size)).toList == t.toList) = false := by simpa using e3
        clear e c1 c3
        go_enter Try.func62, Try.ntmps62
        go_wp2_with fail
        go_quiet (fail)
        go_wp2
        go_ret
        exact ⟨retb HF.out.symm, below_drewN ((Below.refl _ _).alloc (Nat.le_refl _) _) _⟩
end Go.Proofs.Ytpohkeenfbaklaa
