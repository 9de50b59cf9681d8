
/- impl.beginsWith, spec.startsWith: does a list begin with another one. -/
import Derived.Test.YtdjgodemeaneeaaCc
namespace Go.Proofs.Ytdjgodemeaneeaa
open Go.RowKit

/-- the first k numbers -/
theorem IntsAt.takeC {w : World} {a : Option Addr} {n cap : Nat} {zs : List Int} (h : IntsAt w (.slice a n cap) zs) (k : Nat) (hk : k ≤ n) : IntsAt w (.slice a k cap) (zs.take k) := by
  obtain ⟨a', cap', h1, h2, h3, h4⟩ := h
  injection h1 with e1 e2 e3
  subst e1 e3
  have hl : (zs.take k).length = k := by rw [List.length_take]; omega
  refine ⟨a, cap, by rw [hl], by omega, h3, ?_⟩
  rcases h4 with h4 | ⟨g, off, h4, h5⟩
  · subst h4; exact .inl (by simp)
  · refine .inr ⟨g, off, h4, fun i hi => ?_⟩
    rw [hl] at hi
    rw [getD_take _ _ _ _ hi]
    exact h5 i (by omega)
/-- the numbers from k on -/
theorem IntsAt.dropC {w : World} {g off n cap : Nat} {zs : List Int} (h : IntsAt w (.slice (some ⟨g, off, none⟩) n cap) zs) (k : Nat) (hk : k ≤ n) : IntsAt w (.slice (some ⟨g, off + k, none⟩) (n - k) (cap - k)) (zs.drop k) := by
  obtain ⟨a', cap', h1, h2, h3, h4⟩ := h
  injection h1 with e1 e2 e3
  subst e1 e2 e3
  refine ⟨_, _, by rw [List.length_drop], by rw [List.length_drop]; omega, by omega, ?_⟩
  rcases h4 with h4 | ⟨g', off', h4, h5⟩
  · subst h4; exact .inl (by simp)
  · injection h4 with h4
    injection h4 with e1 e2 _
    subst e1 e2
    refine .inr ⟨g, off + k, rfl, fun i hi => ?_⟩
    rw [List.length_drop] at hi
    rw [Nat.add_assoc, h5 (k + i) (by omega), List.getD_eq_getElem?_getD, List.getD_eq_getElem?_getD, List.getElem?_drop]
theorem IntsAt.addrC {w : World} {a : Option Addr} {n c : Nat} {zs : List Int} (h : IntsAt w (.slice a n c) zs) (hn : 0 < n) : ∃ g off, a = some ⟨g, off, none⟩ := by
  obtain ⟨a', cap, e, _, _, hc⟩ := h
  injection e with e1 e2 _
  subst e1
  rcases hc with rfl | ⟨g, off, e, _⟩
  · simp at e2; omega
  · exact ⟨g, off, e⟩
theorem ListsAt.someNth {w : World} {a : Option Addr} {n c : Nat} {L : List (List Int)} (h : ListsAt w (.slice a n c) L) {i : Nat} (hi : i < n) :
    ∃ g off u, a = some ⟨g, off, none⟩ ∧ w.cell? ⟨g, off + i, none⟩ = some u ∧ IntsAt w u (L.getD i []) := by
  obtain ⟨a', cap, e, _, _, hc⟩ := h
  injection e with e1 e2 _
  subst e1
  rcases hc with rfl | ⟨g, off, e, hc⟩
  · simp at e2; omega
  · obtain ⟨u, h1, h2⟩ := hc i (by omega)
    exact ⟨g, off, u, e, h1, h2⟩
theorem begins_len {xs ys : List Int} (h : xs.take ys.length = ys) : ys.length ≤ xs.length := by
  have := congrArg List.length h
  rw [List.length_take] at this
  omega

set_option maxHeartbeats 1000000 in
theorem i_beginsWith (w : World) (u v : Value) (xs ys : List Int) (hx : IntsAt w u xs) (hy : IntsAt w v ys) :
    Calls Try.prog 62 #[u, v] w fun e w' => e = .returned (.bool (decide (xs.take ys.length = ys))) ∧ Below w.heap.size w w' := by
  have HX := Lib.hid hx
  have HY := Lib.hid hy
  obtain ⟨a, c, rfl, x1, x2, _⟩ := hx
  obtain ⟨a', d, rfl, y1, y2, _⟩ := hy
  obtain ⟨n, hn⟩ : ∃ n, xs.length = n := ⟨_, rfl⟩
  obtain ⟨m, hm⟩ : ∃ m, ys.length = m := ⟨_, rfl⟩
  rw [hn] at x1 HX ⊢
  rw [hm] at y1 HY
  have HN := Lib.hid hn
  have HM := Lib.hid hm
  by_cases hle : m ≤ n
  · have hT : Hid (IntsAt w (.slice a m c) (xs.take m)) := HX.out.takeC m hle
    have d1 : decide ((m : Int) ≤ n) = true := decide_eq_true (by omega)
    have b1 : (0 : Int) ≤ (m : Int) := by omega
    have b2 : (m : Int) ≤ (n : Int) := by omega
    have b3 : (m : Int) ≤ (c : Int) := by omega
    have b4 : m ≤ c := by omega
    have n1 : ((m : Int)).toNat = m := by omega
    obtain ⟨b, hb⟩ : ∃ b, decide (xs.take m = ys) = b := ⟨_, rfl⟩
    have HB := Lib.hid hb
    have hB : decide (xs.take ys.length = ys) = b := by rw [hm]; exact hb
    rw [hB]
    rw [hm]
    clear hb hn hm hB
    go_enter Try.func62, Try.ntmps62
    go_wp2_with fail
    refine (i_sameCells_b w _ _ _ ys b hT.out HY.out HB).mono ?_
    rintro e w2 ⟨rfl, hb2⟩
    go_wp2
    go_ret
    exact ⟨rfl, hb2⟩
  · have d1 : decide ((m : Int) ≤ n) = false := decide_eq_false (by omega)
    have HB : Hid (decide (xs.take ys.length = ys) = false) := decide_eq_false fun h => by have := begins_len h; omega
    rw [HB.out]
    rw [hm]
    clear hn hm
    go_enter Try.func62, Try.ntmps62
    go_wp2
    go_ret
    exact ⟨rfl, Below.refl _ _⟩
theorem i_beginsWith_b (w : World) (u v : Value) (xs ys : List Int) (b : Bool) (hx : IntsAt w u xs) (hy : IntsAt w v ys) (hb : Hid (decide (xs.take ys.length = ys) = b)) :
    Calls Try.prog 62 #[u, v] w fun e w' => e = .returned (.bool b) ∧ Below w.heap.size w w' := by
  have := i_beginsWith w u v xs ys hx hy
  rw [hb.out] at this
  exact this

set_option maxHeartbeats 1000000 in
theorem s_startsWith (w : World) (u v : Value) (xs ys : List Int) (hx : IntsAt w u xs) (hy : IntsAt w v ys) :
    Calls Try.prog 116 #[u, v] w fun e w' => e = .returned (.bool (decide (xs.take ys.length = ys))) ∧ Below w.heap.size w w' := by
  have HX := Lib.hid hx
  have HY := Lib.hid hy
  obtain ⟨a, c, rfl, x1, x2, _⟩ := hx
  obtain ⟨a', d, rfl, y1, y2, _⟩ := hy
  obtain ⟨n, hn⟩ : ∃ n, xs.length = n := ⟨_, rfl⟩
  obtain ⟨m, hm⟩ : ∃ m, ys.length = m := ⟨_, rfl⟩
  rw [hn] at x1 HX ⊢
  rw [hm] at y1 HY
  have HN := Lib.hid hn
  have HM := Lib.hid hm
  by_cases hle : m ≤ n
  · have hT : Hid (IntsAt w (.slice a m c) (xs.take m)) := HX.out.takeC m hle
    have d1 : decide ((m : Int) ≤ n) = true := decide_eq_true (by omega)
    have b1 : (0 : Int) ≤ (m : Int) := by omega
    have b2 : (m : Int) ≤ (n : Int) := by omega
    have b3 : (m : Int) ≤ (c : Int) := by omega
    have b4 : m ≤ c := by omega
    have n1 : ((m : Int)).toNat = m := by omega
    obtain ⟨b, hb⟩ : ∃ b, decide (xs.take m = ys) = b := ⟨_, rfl⟩
    have HB := Lib.hid hb
    have hB : decide (xs.take ys.length = ys) = b := by rw [hm]; exact hb
    rw [hB]
    rw [hm]
    clear hb hn hm hB
    go_enter Try.func116, Try.ntmps116
    go_wp2_with fail
    refine (s_sameInts_b w _ _ _ ys b hT.out HY.out HB).mono ?_
    rintro e w2 ⟨rfl, hb2⟩
    go_wp2
    go_ret
    exact ⟨rfl, hb2⟩
  · have d1 : decide ((m : Int) ≤ n) = false := decide_eq_false (by omega)
    have HB : Hid (decide (xs.take ys.length = ys) = false) := decide_eq_false fun h => by have := begins_len h; omega
    rw [HB.out]
    rw [hm]
    clear hn hm
    go_enter Try.func116, Try.ntmps116
    go_wp2
    go_ret
    exact ⟨rfl, Below.refl _ _⟩
theorem s_startsWith_b (w : World) (u v : Value) (xs ys : List Int) (b : Bool) (hx : IntsAt w u xs) (hy : IntsAt w v ys) (hb : Hid (decide (xs.take ys.length = ys) = b)) :
    Calls Try.prog 116 #[u, v] w fun e w' => e = .returned (.bool b) ∧ Below w.heap.size w w' := by
  have := s_startsWith w u v xs ys hx hy
  rw [hb.out] at this
  exact this
end Go.Proofs.Ytdjgodemeaneeaa
