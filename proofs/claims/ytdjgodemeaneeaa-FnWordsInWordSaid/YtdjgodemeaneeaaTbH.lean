
/- Whether a rule applies to a word at a place, in the program and in its model. -/
import Derived.Test.YtdjgodemeaneeaaTbC
import Derived.Test.YtdjgodemeaneeaaPF
import Derived.Deep.QuietTactic
import Derived.BigQuiet
namespace Go.Proofs.Ytdjgodemeaneeaa
open Go.RowKit

/-- the rule applies to the word s at the index a -/
def App (r : PRule) (s : ByteArray) (a : Int) : Prop := 0 ≤ a ∧ a + r.t.size ≤ s.size ∧ s.extract a.toNat (a.toNat + r.t.size) = r.t ∧ PFin r.p a (a + r.t.size) s.size
instance (r : PRule) (s : ByteArray) (a : Int) : Decidable (App r s a) := inferInstanceAs (Decidable (_ ∧ _))
theorem pf_iff {p a t m : Int} (h1 : 0 ≤ a) (h2 : a < t) (h3 : t ≤ m) (h4 : m ≤ 16) : PF p a t m ↔ PFin p a t m := ⟨fun h => h.2.2.2.2, fun h => ⟨h1, h2, h3, h4, h⟩⟩

theorem i_PlaceFits_w (p f t m : Int) (b : Bool) (w : World) (h : Hid (decide (PF p f t m) = b)) :
    Calls Try.prog 101 #[.int .i64 p, .int .i64 f, .int .i64 t, .int .i64 m] w fun e w' => e = .returned (.bool b) ∧ w' = w := by
  have := i_PlaceFits p f t m w
  rw [h.out] at this
  exact this.mono fun _ _ ⟨h1, h2⟩ => ⟨h1, h2.symm⟩

set_option maxHeartbeats 2000000 in
theorem i_ruleApplies (w : World) (u : Value) (r : PRule) (s : ByteArray) (a : Int) (hx : IntsAt w u r.c) (hr : ValidR r) (h1 : 1 ≤ s.size) (h2 : s.size ≤ 16) (ha0 : -9223372036854775808 ≤ a) (ha1 : a ≤ 9223372036854775807) :
    Calls Try.prog 73 #[.agg #[.string r.t, u, .int .i64 r.p], .string s, .int .i64 a] w fun e w' => e = .returned (.bool (decide (App r s a))) ∧ Below w.heap.size w w' := by
  obtain ⟨t, zs, p⟩ := r
  simp only at hx ⊢
  obtain ⟨a2, cp2, rfl, _⟩ := hx
  have ht1 : 1 ≤ t.size := by have := hr.1.1; have := wd_size t; simp only at *; omega
  have ht2 : t.size ≤ 6 := by have := hr.1.2.1; have := wd_size t; simp only at *; omega
  clear hr
  obtain ⟨m, hm⟩ : ∃ m, t.size = m := ⟨_, rfl⟩
  obtain ⟨n, hn⟩ : ∃ n, s.size = n := ⟨_, rfl⟩
  have HM := Lib.hid hm
  have HN := Lib.hid hn
  have uw : IntKind.i64.wrap ((s.size : Int) - (t.size : Int)) = (s.size : Int) - (t.size : Int) := IntWalk.i64_in _ (by omega)
  rw [hm] at ht1 ht2
  rw [hn] at h1 h2
  clear hm hn
  by_cases c1 : a < 0
  · have d1 : decide (a < 0) = true := decide_eq_true c1
    have HO : Hid (¬ App ⟨t, zs, p⟩ s a) := fun h => by have := h.1; omega
    clear c1
    go_enter Try.func73, Try.ntmps73
    go_wp2
    go_ret
    exact ⟨ret_bool (decide_eq_false HO.out).symm, (Below.refl _ _).alloc (Nat.le_refl _) _⟩
  · have d1 : decide (a < 0) = false := decide_eq_false c1
    by_cases c2 : (s.size : Int) - (t.size : Int) < a
    · have d2 : decide ((s.size : Int) - (t.size : Int) < a) = true := decide_eq_true c2
      have HO : Hid (¬ App ⟨t, zs, p⟩ s a) := fun h => by have := h.2.1; simp only at this; omega
      clear c1 c2
      go_enter Try.func73, Try.ntmps73
      go_wp2
      go_ret
      exact ⟨ret_bool (decide_eq_false HO.out).symm, (Below.refl _ _).alloc (Nat.le_refl _) _⟩
    · have d2 : decide ((s.size : Int) - (t.size : Int) < a) = false := decide_eq_false c2
      obtain ⟨k, rfl⟩ : ∃ k : Nat, a = k := ⟨a.toNat, by omega⟩
      have hk : k + t.size ≤ s.size := by omega
      have b1 : (0 : Int) ≤ (k : Int) := by omega
      have b2 : (k : Int) + (t.size : Int) ≤ (s.size : Int) := by omega
      have b3 : (k : Int) ≤ (k : Int) + (t.size : Int) := by omega
      have u2 : IntKind.i64.wrap ((k : Int) + (t.size : Int)) = (k : Int) + (t.size : Int) := IntWalk.i64_in _ (by have := HM.out; have := HN.out; omega)
      have n1 : ((k : Int) + (t.size : Int)).toNat = k + t.size := by omega
      have n2 : ((k : Int)).toNat = k := by omega
      have HA : Hid (App ⟨t, zs, p⟩ s (k : Int) ↔ s.extract k (k + t.size) = t ∧ PF p k (k + t.size) s.size) := by
        have := HM.out
        have := HN.out
        unfold App
        simp only [n2]
        rw [pf_iff (by omega) (by omega) (by omega) (by omega)]
        exact ⟨fun h => h.2.2, fun h => ⟨by omega, by omega, h⟩⟩
      obtain ⟨b, hb⟩ : ∃ b, decide (PF p k (k + t.size) s.size) = b := ⟨_, rfl⟩
      have HB := Lib.hid hb
      clear hb c1 c2
      go_enter Try.func73, Try.ntmps73
      by_cases e : s.extract k (k + t.size) = t
      · have e3 : (s.extract k (k + t.size)).toList = t.toList := by rw [e]
        have HO : Hid (decide (App ⟨t, zs, p⟩ s (k : Int)) = b) := by
          show decide _ = b
          rw [← HB.out]
          exact decide_eq_decide.2 (HA.out.trans ⟨fun h => h.2, fun h => ⟨e, h⟩⟩)
        clear e
        go_wp2_with fail
        go_quiet ((go_at_call 101; exact Calls.quiet_of_same (i_PlaceFits_w _ _ _ _ b _ HB)))
        go_wp2
        go_ret
        exact ⟨ret_bool HO.out.symm, below_drewN ((Below.refl _ _).alloc (Nat.le_refl _) _) _⟩
      · have e3 := toList_nei e
        have HO : Hid (¬ App ⟨t, zs, p⟩ s (k : Int)) := fun h => e (HA.out.1 h).1
        have e5 : ((s.extract k (k + t.size)).toList == t.toList) = false := by simpa using e3
        clear e
        go_wp2_with fail
        go_quiet (fail)
        go_wp2
        go_ret
        exact ⟨ret_bool (decide_eq_false HO.out).symm, below_drewN ((Below.refl _ _).alloc (Nat.le_refl _) _) _⟩

theorem s_placeFits_w (p f t m : Int) (b : Bool) (w : World) (h0 : 0 ≤ p ∧ p ≤ 4) (h : Hid (decide (PFin p f t m) = b)) :
    Calls Try.prog 115 #[.int .i64 p, .int .i64 f, .int .i64 t, .int .i64 m] w fun e w' => e = .returned (.bool b) ∧ w' = w := by
  have := s_placeFits p f t m w h0
  rw [h.out] at this
  exact this.mono fun _ _ ⟨h1, h2⟩ => ⟨h1, h2.symm⟩

set_option maxHeartbeats 2000000 in
theorem s_applies (w : World) (u : Value) (r : PRule) (s : ByteArray) (k : Nat) (hx : IntsAt w u r.c) (hr : ValidR r) (hk : k ≤ 1000) :
    Calls Try.prog 104 #[.agg #[.string r.t, u, .int .i64 r.p], .string s, .int .i64 k] w fun e w' => e = .returned (.bool (decide (App r s k))) ∧ Below w.heap.size w w' := by
  obtain ⟨t, zs, p⟩ := r
  simp only at hx ⊢
  obtain ⟨a2, cp2, rfl, _⟩ := hx
  have ht2 : t.size ≤ 6 := by have := hr.1.2.1; have := wd_size t; simp only at *; omega
  have HP : Hid (0 ≤ p ∧ p ≤ 4) := hr.2.2.2
  clear hr
  have u2 : IntKind.i64.wrap ((k : Int) + (t.size : Int)) = (k : Int) + (t.size : Int) := IntWalk.i64_in _ (by omega)
  have n1 : ((k : Int) + (t.size : Int)).toNat = k + t.size := by omega
  have n2 : ((k : Int)).toNat = k := by omega
  have b1 : (0 : Int) ≤ (k : Int) := by omega
  have b3 : (k : Int) ≤ (k : Int) + (t.size : Int) := by omega
  have HA : Hid (App ⟨t, zs, p⟩ s (k : Int) ↔ (k : Int) + t.size ≤ s.size ∧ s.extract k (k + t.size) = t ∧ PFin p k (k + t.size) s.size) := by
    unfold App
    simp only [n2]
    exact ⟨fun h => h.2, fun h => ⟨by omega, h⟩⟩
  by_cases c1 : (k : Int) + (t.size : Int) ≤ (s.size : Int)
  · have d1 : decide ((k : Int) + (t.size : Int) ≤ (s.size : Int)) = true := decide_eq_true c1
    by_cases e : s.extract k (k + t.size) = t
    · obtain ⟨b, hb⟩ : ∃ b, decide (PFin p k (k + t.size) s.size) = b := ⟨_, rfl⟩
      have HB := Lib.hid hb
      have e3 : (s.extract k (k + t.size)).toList = t.toList := by rw [e]
      have HO : Hid (decide (App ⟨t, zs, p⟩ s (k : Int)) = b) := by
        show decide _ = b
        rw [← HB.out]
        exact decide_eq_decide.2 (HA.out.trans ⟨fun h => h.2.2, fun h => ⟨c1, e, h⟩⟩)
      clear e hb
      go_enter Try.func104, Try.ntmps104
      go_wp2_with fail
      go_quiet ((go_at_call 115; exact Calls.quiet_of_same (s_placeFits_w _ _ _ _ b _ HP.out HB)))
      go_wp2
      go_ret
      exact ⟨ret_bool HO.out.symm, below_drewN ((Below.refl _ _).alloc (Nat.le_refl _) _) _⟩
    · have e3 := toList_nei e
      have HO : Hid (¬ App ⟨t, zs, p⟩ s (k : Int)) := fun h => e (HA.out.1 h).2.1
      have e5 : ((s.extract k (k + t.size)).toList == t.toList) = false := by simpa using e3
      clear e
      go_enter Try.func104, Try.ntmps104
      go_wp2_with fail
      go_quiet (fail)
      go_wp2
      go_ret
      exact ⟨ret_bool (decide_eq_false HO.out).symm, below_drewN ((Below.refl _ _).alloc (Nat.le_refl _) _) _⟩
  · have d1 : decide ((k : Int) + (t.size : Int) ≤ (s.size : Int)) = false := decide_eq_false c1
    have HO : Hid (¬ App ⟨t, zs, p⟩ s (k : Int)) := fun h => c1 (HA.out.1 h).1
    clear c1
    go_enter Try.func104, Try.ntmps104
    go_wp2_with fail
    go_quiet (fail)
    go_wp2
    go_ret
    exact ⟨ret_bool (decide_eq_false HO.out).symm, below_drewN ((Below.refl _ _).alloc (Nat.le_refl _) _) _⟩
end Go.Proofs.Ytdjgodemeaneeaa
